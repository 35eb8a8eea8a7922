/- Texts one behind the other: UU UO UL XL VD VE EB. -/
import Derived.Test.YtkekkbciiohbkaaGreatDoorZ22
import Derived.Test.YtkekkbciiohbkaaGreatDoorZO1
import Derived.Test.YtkekkbciiohbkaaGreatDoorZ36
import Derived.Test.YtkekkbciiohbkaaGreatDoorZ4
import Derived.Test.YtkekkbciiohbkaaGreatDoorZ39
import Derived.Deep.QuietTactic
import Derived.BigQuiet
import Derived.Laws.StructEq
set_option maxRecDepth 100000
set_option maxHeartbeats 16000000
set_option linter.unusedVariables false
set_option linter.unnecessarySimpa false
namespace Go.Proofs.YtkekkbciiohbkaaGreatDoor.U
open Go.RowKit
theorem GS(s:ByteArray)(hm:s.size=2):bn s=[((s[0]'(by omega)).toNat:Int),((s[1]'(by omega)).toNat:Int)]:=by
 rw[gm s (by omega),gl s 1 (by omega),eP s 2 (by omega)]
theorem AJ(s:ByteArray)(hm:s.size=3):bn s=[((s[0]'(by omega)).toNat:Int),((s[1]'(by omega)).toNat:Int),((s[2]'(by omega)).toNat:Int)]:=by
 rw[gm s (by omega),gl s 1 (by omega),gl s 2 (by omega),eP s 3 (by omega)]
def vH(n:Int)(a b:Int):Bool:=if 194≤a∧a≤223 then decide (n=2∧128≤b∧b≤191) else decide (224≤a∧a≤244∧aP a≤b∧b≤aG a)
theorem Ei(a b:Int):cI [a,b]=vH 2 a b:=by
 unfold vH;by_cases h:194≤a∧a≤223
 ·rw[if_pos h,Bool.eq_iff_iff];simp only[cI,decide_eq_true_eq]
  exact⟨fun hh=>⟨trivial,by omega⟩,fun hh=>by omega⟩
 ·rw[if_neg h,Bool.eq_iff_iff];simp only[cI,decide_eq_true_eq];omega
theorem xf(a b c:Int):cI [a,b,c]=(vH 3 a b&&decide (128≤c∧c≤191)):=by
 unfold vH;by_cases h:194≤a∧a≤223
 ·rw[if_pos h,Bool.eq_iff_iff];simp only[cI,decide_eq_true_eq,Bool.and_eq_true];omega
 ·rw[if_neg h,Bool.eq_iff_iff];simp only[cI,decide_eq_true_eq,Bool.and_eq_true];omega
theorem Eh(s:ByteArray)(hm:s.size=2)(w:World):
  Calls Tryz.prog 99 #[.string s] w fun e w'=>e=.returned (.bool (cI (bn s)))∧∃ n,w'=w.drewN n:=by
 have hp0:0<s.size:=by omega
 have hp1:1<s.size:=by omega
 have HB:Hid (bn s=[(s[0].toNat:Int),(s[1].toNat:Int)]):=GS s hm;have g2:((s.size:Int)==2)=true:=by simp;omega
 have b0:(s[0].toNat:Int)≤255:=by have:=s[0].toNat_lt;omega
 have b1:(s[1].toNat:Int)≤255:=by have:=s[1].toNat_lt;omega
 have z1:(1:Int)<(s.size:Int):=by omega
 clear hm;go_enter Tryz.func99,Tryz.ntmps99
 go_wp2_with fail
 go_quiet (fail)
 go_wp2
 all_goals (go_ret;refine⟨an ?_,_,rfl⟩;rw[HB.out,Ei];clear HB;simp only[beq_iff_eq,beq_eq_false_iff_ne]at *;unfold vH aP aG;(repeat' split) <;> first | (simp;omega) | (simp;done) | (rw[Bool.eq_iff_iff];simp;omega) | omega)
theorem Eg(s:ByteArray)(hm:s.size=3)(w:World):
  Calls Tryz.prog 99 #[.string s] w fun e w'=>e=.returned (.bool (cI (bn s)))∧∃ n,w'=w.drewN n:=by
 have hp0:0<s.size:=by omega
 have hp1:1<s.size:=by omega
 have hp2:2<s.size:=by omega
 have HB:Hid (bn s=[(s[0].toNat:Int),(s[1].toNat:Int),(s[2].toNat:Int)]):=AJ s hm;have g2:((s.size:Int)==2)=false:=by simp;omega
 have b0:(s[0].toNat:Int)≤255:=by have:=s[0].toNat_lt;omega
 have b1:(s[1].toNat:Int)≤255:=by have:=s[1].toNat_lt;omega
 have z1:(1:Int)<(s.size:Int):=by omega
 have z2:(2:Int)<(s.size:Int):=by omega
 clear hm;go_enter Tryz.func99,Tryz.ntmps99
 go_wp2_with fail
 go_quiet (fail)
 go_wp2
 all_goals (go_ret;refine⟨an ?_,_,rfl⟩;rw[HB.out,xf];clear HB;simp only[beq_iff_eq,beq_eq_false_iff_ne]at *;unfold vH aP aG;(repeat' split) <;> first | (simp;omega) | (simp;done) | (rw[Bool.eq_iff_iff];simp;omega) | omega)
theorem mZ(s:ByteArray)(h0:2≤s.size)(h1:s.size≤3)(w:World):
  Calls Tryz.prog 99 #[.string s] w fun e w'=>e=.returned (.bool (cI (bn s)))∧∃ n,w'=w.drewN n:=by
 by_cases h:s.size=2
 ·exact Eh s h w
 ·exact Eg s (by omega) w
theorem gX(s:ByteArray)(n:Nat):bn (s.extract 0 n)=(bn s).take n:=by
 unfold bn;rw[Lib.extract_data];simp[List.map_take]
theorem CD(l:List Int)(h:l≠[])(hl:Bytes l):(nx l).2.1≤4:=by
 rcases mh l h hl with⟨a,t,_,h0,h1,e⟩ | ⟨a,b,t,_,h1,h2,h3,h4,e⟩ | ⟨a,b,c,t,_,h1,h2,h3,h4,h5,h6,e⟩ | ⟨a,b,c,d,t,_,h1,h2,h3,h4,h5,h6,h7,h8,e⟩ | ⟨n,_,_,e⟩
 all_goals (rw[e];simp only;omega)
theorem vU(l:List Int)(hne:l≠[])(hl:Bytes l)(k:Nat)(hk:¬ (k≤4∧k≤l.length))(h:∀ j,1≤j→j<k→dI (l.take j)=false):(nx l).2.2=false:=by
 cases hw:(nx l).2.2 with
 | false=>rfl
 | true =>
  have hn:=j7 l hne;have h4:=CD l hne hl;have:=(nJ l hne hl (nx l).2.1 hn.1 hn.2).2 hw rfl;rw[h _ hn.1 (by omega)]at this;cases this
theorem qD(s:ByteArray)(w:World)(hs:s.size≤9223372036854775807):
  Calls Tryz.prog 58 #[.string s] w fun e w'=>e=.returned (.tuple #[.int .i32 (nx (bn s)).1,.int .i64 (nx (bn s)).2.1,.bool (nx (bn s)).2.2])∧Below w.heap.size w w':=by
 by_cases hp:0<s.size
 ·have he:s.toList.isEmpty=false:=ab s hp
  have hne:Hid (bn s≠[]):=fun h=>by have:=congrArg List.length h;rw[aa,List.length_nil]at this;omega
  have hlen:Hid ((bn s).length=s.size):=aa s;go_enter Tryz.func58,Tryz.ntmps58
  go_wp2_with fail
  go_loopw [5] (fun i wr=>∃ k:Nat,1≤k∧k≤5∧k≤s.size+1∧i=.int .i64 k∧Hid (∀ j,1≤j→j<k→dI ((bn s).take j)=false)∧Below w.heap.size w wr) (fun i _=>5 - (intOf i).toNat)
  case atStart=>exact⟨1,by omega,by omega,by omega,rfl,fun j h1 h2=>by omega,Below.refl _ _⟩
  case round =>
   obtain⟨k,hk1,hk5,hks,rfl,HW,hB⟩:=hrel;by_cases hin:k≤4∧k≤s.size
   ·obtain⟨hk4,hkl⟩:=hin
    have hsz:(s.extract 0 k).size=k:=by simp;omega
    have h1':Hid (1≤(s.extract 0 k).size∧(s.extract 0 k).size≤4):=by constructor <;> omega
    clear hsz;cases hw:dI ((bn s).take k) with
    | true =>
     have HX:Hid (nx (bn s)=(ee ((bn s).take k),k,true)):=(nJ _ hne.out (aM s) k hk1 (by rw[hlen.out];exact hkl)).1 hw;have HK:Hid (dI ((bn s).take k)=true):=hw;clear hw
     go_wp2_with fail;refine(nK _ h1'.out.1 h1'.out.2 _).mono ?_;rw[gX,HK.out];rintro e w1 ⟨rfl,hB1⟩
     go_wp2_with fail;refine(cj _ h1'.out.1 h1'.out.2 _).mono ?_;rw[gX];rintro e w2 ⟨rfl,rfl⟩
     go_wp2
     go_ret3;exact⟨by rw[HX.out];rfl,hB.trans (hB1.mono hB.size)⟩
    | false =>
     have HK:Hid (dI ((bn s).take k)=false):=hw;clear hw
     go_wp2_with fail;refine(nK _ h1'.out.1 h1'.out.2 _).mono ?_;rw[gX,HK.out];rintro e w1 ⟨rfl,hB1⟩
     have B1:=hB.trans (hB1.mono hB.size);clear hB hB1;go_wp2
     go_roundw
     case rel=>exact⟨k+1,by omega,by omega,by omega,by go_num,fun j g1 g2=>by
       by_cases hj:j<k
       · exact HW.out j g1 hj
       · obtain rfl:j=k:=by omega
         exact HK.out,B1⟩
     case measure=>simp[intOf];omega
   ·have hnw:=vU _ hne.out (aM s) k (by rw[hlen.out];exact hin) HW.out
    have hF:=CE _ hne.out (aM s) hnw;have hnn:=j7 _ hne.out;rw[hlen.out]at hF hnn;clear HW hnw;obtain⟨N,hN⟩:∃ N,N=(nx (bn s)).2.1:=⟨_,rfl⟩;rw[←hN]at hF hnn;obtain⟨hX,hN3,hbeg,hend⟩:=hF;have HX:Hid (nx (bn s)=(65533,N,false)):=hX;have HBG:Hid (∀ k,1≤k→k<N→cI ((bn s).take (k+1))=true):=hbeg;have HED:Hid (N<s.size→N<3→cI ((bn s).take (N+1))=false):=hend;clear hX hbeg hend hN
    have hor:(k≤4∧decide (k≤s.size)=false∧decide ((k:Int)≤(s.size:Int))=false)∨(¬ k≤4∧decide ((k:Int)≤4)=false∧decide (k≤4)=false):=by
     by_cases hk4:k≤4
     ·exact .inl ⟨hk4,decide_eq_false (by omega),decide_eq_false (by omega)⟩
     ·exact .inr ⟨hk4,decide_eq_false (by omega),decide_eq_false (by omega)⟩
    rcases hor with⟨hk4,hq1,hq2⟩ | ⟨hk4,hq1,hq2⟩
    all_goals
     go_wp2_with fail
     go_loopw [6] (fun i wr=>∃ k:Nat,1≤k∧k≤N∧i=.int .i64 k∧Below w.heap.size w wr) (fun i _=>N - (intOf i).toNat)
     case atStart=>exact⟨1,by omega,by omega,rfl,hB⟩
     case round =>
      rename_i wr2 _
      clear hB;obtain⟨m,hm1,hm2,rfl,hB⟩:=hrel;by_cases hlt:m<N
      ·have hsz:Hid (2≤(s.extract 0 (m+1)).size∧(s.extract 0 (m+1)).size≤3):=by
        have:(s.extract 0 (m+1)).size=m+1:=by simp;omega
        constructor <;> omega
       have hml:m<s.size:=by omega
       have hm3:m<3:=by omega
       go_wp2_with fail;refine(mZ _ hsz.out.1 hsz.out.2 _).mono ?_;rw[gX,HBG.out m hm1 hlt];rintro e w1 ⟨rfl,n,rfl⟩
       go_wp2
       go_roundw
       case rel=>exact⟨m+1,by omega,by omega,by go_num,hB.trans (below_drewN _ _ _)⟩
       case measure=>simp[intOf];omega
      ·have hmN:m=N:=by omega
       rw[←hmN]at HX HED;clear hmN;by_cases hml:m<s.size
       ·by_cases hm3:m<3
        ·have hsz:Hid (2≤(s.extract 0 (m+1)).size∧(s.extract 0 (m+1)).size≤3):=by
          have:(s.extract 0 (m+1)).size=m+1:=by simp;omega
          constructor <;> omega
         go_wp2_with fail;refine(mZ _ hsz.out.1 hsz.out.2 _).mono ?_;rw[gX,HED.out hml hm3];rintro e w1 ⟨rfl,n,rfl⟩
         go_wp2
         go_ret3;exact⟨by rw[HX.out];rfl,hB.trans (below_drewN _ _ _)⟩
        ·try (exfalso;simp only[decide_eq_false_iff_not]at hq1;omega)
         all_goals
          go_wp2
          go_ret3;exact⟨by rw[HX.out];rfl,hB⟩
       ·go_wp2
        go_ret3;exact⟨by rw[HX.out];rfl,hB⟩
 ·have he:s.toList.isEmpty=true:=ah s (by omega)
  have hx:Hid (nx (bn s)=(0,0,false)):=ze s (by omega);go_enter Tryz.func58,Tryz.ntmps58
  go_wp2
  go_ret3;exact⟨by rw[hx.out];rfl,Below.refl _ _⟩
def yg:Value→Nat
 | .string t=>t.size
 | _=>0
theorem EO(t:ByteArray)(h:0<t.size):bn t≠[]:=fun hh=>by
 have:=congrArg List.length hh;rw[aa,List.length_nil]at this;omega
theorem nA(s:ByteArray)(hs:s.size≤17179869184)(w:World):
  Calls Tryz.prog 35 #[.string s] w fun e W'=>∃ v,e=.returned v∧W'.ownsRow w.heap.size 21 1 v (dec (bn s)).length ((dec (bn s)).map (Value.int .i32))∧Below w.heap.size w W':=by
 obtain⟨i0,hi,hz0,hz1,hz2⟩:=info_parts Tryz.iX;go_enter Tryz.func35,Tryz.ntmps35
 go_wp2_with fail
 go_loopw [0,3] (fun sv v wr=>∃(t:ByteArray) (pre:List Int),sv=.string t∧pre.length+t.size≤s.size∧Hid (dec (bn s)=pre++dec (bn t))∧wr.ownsRow w.heap.size 21 1 v pre.length (pre.map (Value.int .i32))∧Below w.heap.size w wr) (fun sv _ _=>yg sv)
 case atStart=>exact⟨s,[],rfl,by simp,by show _=_;simp,World.ownsRow_nil _ _ _ _,Below.refl _ _⟩
 case round =>
  obtain⟨t,pre,rfl,hsz,HD,hrow,hB⟩:=hrel;by_cases hp:0<t.size
  ·have he:t.toList.isEmpty=false:=ab t hp
   have hnn:=j7 (bn t) (EO t hp);rw[aa]at hnn
   have HC:Hid (dec (bn t)=(nx (bn t)).1::dec (bn (t.extract (nx (bn t)).2.1 t.size))):=by
    show _=_
    rw[bg _ (EO t hp) (aM t),aj]
   go_wp2_with fail;refine(qD _ _ (by omega)).mono ?_
   generalize nx (bn t)=x at hnn HC ⊢
   obtain⟨r,n,b⟩:=x;simp only at hnn HC ⊢
   rintro e w1 ⟨rfl,hB1⟩
   have r1:=ax hrow hB1 (Nat.le_refl _);have B1:=hB.trans (hB1.mono hB.size);clear hrow hB1 hB
   go_wp2_with(at_builtin;refine wpList_append_own _ rfl _ _ 58 rfl w.heap.size 21 i0 (.int .i32 0) 1 4 Tryz.underlying58 hi hz0 hz1 hz2 rfl (by decide) _ _ _ rfl (r1.alloc _) ⟨w1.heap.size,0,none⟩ 1 1 [.int .i32 r] rfl rfl (cell_one_new _ _ _) (by simp[Value.oneCell']) (by unfold maxLen;omega) (by omega) (by have:=B1.size;simp;omega) ?_;intro v' w2 hown' hgrow _)
   have B2:Below w.heap.size w w2:=below_grow (B1.alloc B1.size _) (by have:=B1.size;simp;omega) (r1.alloc _) hgrow
   have R2:Hid (w2.ownsRow w.heap.size 21 1 v' (pre++[r]).length ((pre++[r]).map (Value.int .i32))):=by
    show World.ownsRow _ _ _ _ _ _ _
    simpa using hown'
   clear hown' hgrow r1 B1;go_wp2
   go_roundw
   case rel=>exact⟨t.extract n t.size,pre++[r],rfl,by simp;omega,by show _=_;rw[HD.out,HC.out];simp,R2.out,B2⟩
   case measure=>simp[yg];omega
  ·have he:t.toList.isEmpty=true:=ah t (by omega)
   have HE:Hid (dec (bn s)=pre):=by
    show _=_
    rw[HD.out,List.length_eq_zero_iff.1 (show(bn t).length=0 by rw[aa];omega),ix,List.append_nil]
   go_wp2;go_ret;exact⟨_,rfl,by rw[HE.out];exact hrow,hB⟩
end Go.Proofs.YtkekkbciiohbkaaGreatDoor.U
namespace Go.Proofs.YtkekkbciiohbkaaGreatDoor.X
open Go.RowKit
open Go.Proofs.YtkekkbciiohbkaaGreatDoor.F (hx bw vl bn aa aC av aq ar hid aj ab ah aR aK)
structure Ctr(G:World→Prop):Prop where
 keep:∀(w w':World),G w→Below w.heap.size w w'→G w'
 cp:∀(s:ByteArray) (w:World),s.size≤100000→G w→Calls Tryz.prog 41 #[.string s] w fun e W'=>e=.returned (.tuple #[.agg (ak ((prs (bn s)).getD z8)).toArray,.int .i64 (err (prs (bn s)))])∧Below w.heap.size w W'
 ct:∀(a:List Nat) (w:World),a.length=8→Small a→G w→Calls Tryz.prog 30 #[.agg (ak a).toArray] w fun e W'=>ia a w e W'
theorem Ctr.cpIs{G:World→Prop}(C:Ctr G){s:ByteArray}{a0 a1 a2 a3 a4 a5 a6 a7:Nat}(hs:s.size≤100000)(h:prs (bn s)=some [a0,a1,a2,a3,a4,a5,a6,a7])(W:World)(hG:G W):Calls Tryz.prog 41 #[.string s] W fun e W'=>e=.returned (.tuple #[.agg #[.int .u16 a0,.int .u16 a1,.int .u16 a2,.int .u16 a3,.int .u16 a4,.int .u16 a5,.int .u16 a6,.int .u16 a7],.int .i64 0])∧Below W.heap.size W W' :=
 (C.cp s W hs hG).mono (by
   rintro e W' ⟨rfl,hB⟩
   rw[h];exact⟨rfl,hB⟩)
theorem Ctr.ctIs{G:World→Prop}(C:Ctr G){a:List Nat}{t:ByteArray}(hl:a.length=8)(hs:Small a)(h:txt a=bn t)(W:World)(hG:G W):Calls Tryz.prog 30 #[.agg (ak a).toArray] W fun e W'=>e=.returned (.string t)∧Below W.heap.size W W' :=
 (C.ct a W hl hs hG).mono (by
   rintro e W' ⟨⟨u,rfl,hu⟩,hB⟩
   obtain rfl:=av (hu.trans h)
   exact⟨rfl,hB⟩)
end Go.Proofs.YtkekkbciiohbkaaGreatDoor.X
namespace Go.Proofs.YtkekkbciiohbkaaGreatDoor.H
open Go.RowKit
open Go.Proofs.YtkekkbciiohbkaaGreatDoor.F (hid)
set_option linter.unusedSimpArgs false
def aJ:List Int:=[32,35,47,58,60,62,63,64,91,92,93,94,124]
theorem rM{c:Int}:fb c=(aJ.contains c||(decide (c=0)||(decide (c=9)||(decide (c=10)||decide (c=13))))):=by
 unfold fb aJ;rw[Bool.eq_iff_iff];simp only[List.contains_iff_mem,List.mem_cons,List.mem_nil_iff,or_false,Bool.or_eq_true,decide_eq_true_eq];omega
theorem an{a b:Bool}(h:a=b):Ending.returned (.bool a)=.returned (.bool b):=by rw[h]
theorem ik(c:Int)(dm:Bool)(h0:0≤c)(h1:c≤255)(w:World):Calls Tryz.prog 15 #[.int .u8 c,.bool dm] w fun e W'=>e=.returned (.bool (if dm=true then fd c else fb c))∧W'=w:=by
 have HY:Hid (aJ.contains c=true→(if dm=true then fd c else fb c)=true):=fun h=>by
  have hb:fb c=true:=by rw[rM,h];rfl
  unfold fd;rw[hb];simp
 have HN:Hid ((∀ x∈aJ,x≠c)→(if dm=true then fd c else fb c)=(decide (c=0)||(decide (c=9)||(decide (c=10)||(decide (c=13)||(dm&&(decide (c<32)||(decide (c=37)||decide (c=127))))))))):=fun h=>by
  have hb:aJ.contains c=false:=by
   rw[Bool.eq_false_iff];intro hc
   exact h c (List.contains_iff_mem.1 hc) rfl
  unfold fd;rw[rM,hb];cases dm <;> simp[Bool.or_assoc]
 obtain⟨R,hR⟩:∃ R,(if dm=true then fd c else fb c)=R:=⟨_,rfl⟩;rw[hR]at HY HN ⊢;clear hR;go_enter Tryz.func15,Tryz.ntmps15
 go_wp2_with fail
 go_loop [5] (fun v=>∃ i:Nat,i≤13∧v=.int .i64 (i:Int)∧Hid (∀ x∈aJ.take i,x≠c)) (fun v=>13 - (intOf v).toNat)
 case atStart=>exact⟨0,by omega,rfl,fun x hx=>by simp at hx⟩
 case round =>
  obtain⟨i,hi,rfl,HI⟩:=hrel;obtain rfl | rfl | rfl | rfl | rfl | rfl | rfl | rfl | rfl | rfl | rfl | rfl | rfl | rfl:i=0∨i=1∨i=2∨i=3∨i=4∨i=5∨i=6∨i=7∨i=8∨i=9∨i=10∨i=11∨i=12∨i=13:=by omega
  ·have hg:((((⟨#[32,35,47,58,60,62,63,64,91,92,93,94,124]⟩:ByteArray)[0]'(by decide)).toNat:Nat):Int)=32:=rfl
   by_cases hc:c=32
   ·have hb:((32:Int)==c)=true:=by rw[hc];rfl
    have HR:=hid (HY.out (by rw[hc];decide));clear HY HN HI hc;go_wp2;go_ret;exact⟨an HR.out.symm,rfl⟩
   ·have hb:((32:Int)==c)=false:=by simp;omega
    have HI2:Hid (∀ x∈aJ.take 1,x≠c):=fun x hx=>by
     have e:aJ.take 1=aJ.take 0++[32]:=rfl;rw[e,List.mem_append]at hx;rcases hx with hx | hx
     ·exact HI.out x hx
     ·rw[List.mem_singleton.1 hx];omega
    clear HI hc;go_wp2;exact⟨⟨1,by omega,by go_num,HI2⟩,by simp[intOf]⟩
  ·have hg:((((⟨#[32,35,47,58,60,62,63,64,91,92,93,94,124]⟩:ByteArray)[1]'(by decide)).toNat:Nat):Int)=35:=rfl
   by_cases hc:c=35
   ·have hb:((35:Int)==c)=true:=by rw[hc];rfl
    have HR:=hid (HY.out (by rw[hc];decide));clear HY HN HI hc;go_wp2;go_ret;exact⟨an HR.out.symm,rfl⟩
   ·have hb:((35:Int)==c)=false:=by simp;omega
    have HI2:Hid (∀ x∈aJ.take 2,x≠c):=fun x hx=>by
     have e:aJ.take 2=aJ.take 1++[35]:=rfl;rw[e,List.mem_append]at hx;rcases hx with hx | hx
     ·exact HI.out x hx
     ·rw[List.mem_singleton.1 hx];omega
    clear HI hc;go_wp2;exact⟨⟨2,by omega,by go_num,HI2⟩,by simp[intOf]⟩
  ·have hg:((((⟨#[32,35,47,58,60,62,63,64,91,92,93,94,124]⟩:ByteArray)[2]'(by decide)).toNat:Nat):Int)=47:=rfl
   by_cases hc:c=47
   ·have hb:((47:Int)==c)=true:=by rw[hc];rfl
    have HR:=hid (HY.out (by rw[hc];decide));clear HY HN HI hc;go_wp2;go_ret;exact⟨an HR.out.symm,rfl⟩
   ·have hb:((47:Int)==c)=false:=by simp;omega
    have HI2:Hid (∀ x∈aJ.take 3,x≠c):=fun x hx=>by
     have e:aJ.take 3=aJ.take 2++[47]:=rfl;rw[e,List.mem_append]at hx;rcases hx with hx | hx
     ·exact HI.out x hx
     ·rw[List.mem_singleton.1 hx];omega
    clear HI hc;go_wp2;exact⟨⟨3,by omega,by go_num,HI2⟩,by simp[intOf]⟩
  ·have hg:((((⟨#[32,35,47,58,60,62,63,64,91,92,93,94,124]⟩:ByteArray)[3]'(by decide)).toNat:Nat):Int)=58:=rfl
   by_cases hc:c=58
   ·have hb:((58:Int)==c)=true:=by rw[hc];rfl
    have HR:=hid (HY.out (by rw[hc];decide));clear HY HN HI hc;go_wp2;go_ret;exact⟨an HR.out.symm,rfl⟩
   ·have hb:((58:Int)==c)=false:=by simp;omega
    have HI2:Hid (∀ x∈aJ.take 4,x≠c):=fun x hx=>by
     have e:aJ.take 4=aJ.take 3++[58]:=rfl;rw[e,List.mem_append]at hx;rcases hx with hx | hx
     ·exact HI.out x hx
     ·rw[List.mem_singleton.1 hx];omega
    clear HI hc;go_wp2;exact⟨⟨4,by omega,by go_num,HI2⟩,by simp[intOf]⟩
  ·have hg:((((⟨#[32,35,47,58,60,62,63,64,91,92,93,94,124]⟩:ByteArray)[4]'(by decide)).toNat:Nat):Int)=60:=rfl
   by_cases hc:c=60
   ·have hb:((60:Int)==c)=true:=by rw[hc];rfl
    have HR:=hid (HY.out (by rw[hc];decide));clear HY HN HI hc;go_wp2;go_ret;exact⟨an HR.out.symm,rfl⟩
   ·have hb:((60:Int)==c)=false:=by simp;omega
    have HI2:Hid (∀ x∈aJ.take 5,x≠c):=fun x hx=>by
     have e:aJ.take 5=aJ.take 4++[60]:=rfl;rw[e,List.mem_append]at hx;rcases hx with hx | hx
     ·exact HI.out x hx
     ·rw[List.mem_singleton.1 hx];omega
    clear HI hc;go_wp2;exact⟨⟨5,by omega,by go_num,HI2⟩,by simp[intOf]⟩
  ·have hg:((((⟨#[32,35,47,58,60,62,63,64,91,92,93,94,124]⟩:ByteArray)[5]'(by decide)).toNat:Nat):Int)=62:=rfl
   by_cases hc:c=62
   ·have hb:((62:Int)==c)=true:=by rw[hc];rfl
    have HR:=hid (HY.out (by rw[hc];decide));clear HY HN HI hc;go_wp2;go_ret;exact⟨an HR.out.symm,rfl⟩
   ·have hb:((62:Int)==c)=false:=by simp;omega
    have HI2:Hid (∀ x∈aJ.take 6,x≠c):=fun x hx=>by
     have e:aJ.take 6=aJ.take 5++[62]:=rfl;rw[e,List.mem_append]at hx;rcases hx with hx | hx
     ·exact HI.out x hx
     ·rw[List.mem_singleton.1 hx];omega
    clear HI hc;go_wp2;exact⟨⟨6,by omega,by go_num,HI2⟩,by simp[intOf]⟩
  ·have hg:((((⟨#[32,35,47,58,60,62,63,64,91,92,93,94,124]⟩:ByteArray)[6]'(by decide)).toNat:Nat):Int)=63:=rfl
   by_cases hc:c=63
   ·have hb:((63:Int)==c)=true:=by rw[hc];rfl
    have HR:=hid (HY.out (by rw[hc];decide));clear HY HN HI hc;go_wp2;go_ret;exact⟨an HR.out.symm,rfl⟩
   ·have hb:((63:Int)==c)=false:=by simp;omega
    have HI2:Hid (∀ x∈aJ.take 7,x≠c):=fun x hx=>by
     have e:aJ.take 7=aJ.take 6++[63]:=rfl;rw[e,List.mem_append]at hx;rcases hx with hx | hx
     ·exact HI.out x hx
     ·rw[List.mem_singleton.1 hx];omega
    clear HI hc;go_wp2;exact⟨⟨7,by omega,by go_num,HI2⟩,by simp[intOf]⟩
  ·have hg:((((⟨#[32,35,47,58,60,62,63,64,91,92,93,94,124]⟩:ByteArray)[7]'(by decide)).toNat:Nat):Int)=64:=rfl
   by_cases hc:c=64
   ·have hb:((64:Int)==c)=true:=by rw[hc];rfl
    have HR:=hid (HY.out (by rw[hc];decide));clear HY HN HI hc;go_wp2;go_ret;exact⟨an HR.out.symm,rfl⟩
   ·have hb:((64:Int)==c)=false:=by simp;omega
    have HI2:Hid (∀ x∈aJ.take 8,x≠c):=fun x hx=>by
     have e:aJ.take 8=aJ.take 7++[64]:=rfl;rw[e,List.mem_append]at hx;rcases hx with hx | hx
     ·exact HI.out x hx
     ·rw[List.mem_singleton.1 hx];omega
    clear HI hc;go_wp2;exact⟨⟨8,by omega,by go_num,HI2⟩,by simp[intOf]⟩
  ·have hg:((((⟨#[32,35,47,58,60,62,63,64,91,92,93,94,124]⟩:ByteArray)[8]'(by decide)).toNat:Nat):Int)=91:=rfl
   by_cases hc:c=91
   ·have hb:((91:Int)==c)=true:=by rw[hc];rfl
    have HR:=hid (HY.out (by rw[hc];decide));clear HY HN HI hc;go_wp2;go_ret;exact⟨an HR.out.symm,rfl⟩
   ·have hb:((91:Int)==c)=false:=by simp;omega
    have HI2:Hid (∀ x∈aJ.take 9,x≠c):=fun x hx=>by
     have e:aJ.take 9=aJ.take 8++[91]:=rfl;rw[e,List.mem_append]at hx;rcases hx with hx | hx
     ·exact HI.out x hx
     ·rw[List.mem_singleton.1 hx];omega
    clear HI hc;go_wp2;exact⟨⟨9,by omega,by go_num,HI2⟩,by simp[intOf]⟩
  ·have hg:((((⟨#[32,35,47,58,60,62,63,64,91,92,93,94,124]⟩:ByteArray)[9]'(by decide)).toNat:Nat):Int)=92:=rfl
   by_cases hc:c=92
   ·have hb:((92:Int)==c)=true:=by rw[hc];rfl
    have HR:=hid (HY.out (by rw[hc];decide));clear HY HN HI hc;go_wp2;go_ret;exact⟨an HR.out.symm,rfl⟩
   ·have hb:((92:Int)==c)=false:=by simp;omega
    have HI2:Hid (∀ x∈aJ.take 10,x≠c):=fun x hx=>by
     have e:aJ.take 10=aJ.take 9++[92]:=rfl;rw[e,List.mem_append]at hx;rcases hx with hx | hx
     ·exact HI.out x hx
     ·rw[List.mem_singleton.1 hx];omega
    clear HI hc;go_wp2;exact⟨⟨10,by omega,by go_num,HI2⟩,by simp[intOf]⟩
  ·have hg:((((⟨#[32,35,47,58,60,62,63,64,91,92,93,94,124]⟩:ByteArray)[10]'(by decide)).toNat:Nat):Int)=93:=rfl
   by_cases hc:c=93
   ·have hb:((93:Int)==c)=true:=by rw[hc];rfl
    have HR:=hid (HY.out (by rw[hc];decide));clear HY HN HI hc;go_wp2;go_ret;exact⟨an HR.out.symm,rfl⟩
   ·have hb:((93:Int)==c)=false:=by simp;omega
    have HI2:Hid (∀ x∈aJ.take 11,x≠c):=fun x hx=>by
     have e:aJ.take 11=aJ.take 10++[93]:=rfl;rw[e,List.mem_append]at hx;rcases hx with hx | hx
     ·exact HI.out x hx
     ·rw[List.mem_singleton.1 hx];omega
    clear HI hc;go_wp2;exact⟨⟨11,by omega,by go_num,HI2⟩,by simp[intOf]⟩
  ·have hg:((((⟨#[32,35,47,58,60,62,63,64,91,92,93,94,124]⟩:ByteArray)[11]'(by decide)).toNat:Nat):Int)=94:=rfl
   by_cases hc:c=94
   ·have hb:((94:Int)==c)=true:=by rw[hc];rfl
    have HR:=hid (HY.out (by rw[hc];decide));clear HY HN HI hc;go_wp2;go_ret;exact⟨an HR.out.symm,rfl⟩
   ·have hb:((94:Int)==c)=false:=by simp;omega
    have HI2:Hid (∀ x∈aJ.take 12,x≠c):=fun x hx=>by
     have e:aJ.take 12=aJ.take 11++[94]:=rfl;rw[e,List.mem_append]at hx;rcases hx with hx | hx
     ·exact HI.out x hx
     ·rw[List.mem_singleton.1 hx];omega
    clear HI hc;go_wp2;exact⟨⟨12,by omega,by go_num,HI2⟩,by simp[intOf]⟩
  ·have hg:((((⟨#[32,35,47,58,60,62,63,64,91,92,93,94,124]⟩:ByteArray)[12]'(by decide)).toNat:Nat):Int)=124:=rfl
   by_cases hc:c=124
   ·have hb:((124:Int)==c)=true:=by rw[hc];rfl
    have HR:=hid (HY.out (by rw[hc];decide));clear HY HN HI hc;go_wp2;go_ret;exact⟨an HR.out.symm,rfl⟩
   ·have hb:((124:Int)==c)=false:=by simp;omega
    have HI2:Hid (∀ x∈aJ.take 13,x≠c):=fun x hx=>by
     have e:aJ.take 13=aJ.take 12++[124]:=rfl;rw[e,List.mem_append]at hx;rcases hx with hx | hx
     ·exact HI.out x hx
     ·rw[List.mem_singleton.1 hx];omega
    clear HI hc;go_wp2;exact⟨⟨13,by omega,by go_num,HI2⟩,by simp[intOf]⟩
  ·have HR:=hid (HN.out HI.out)
   clear HY HN HI;cases dm with
   | true =>
    go_wp2
    all_goals
     go_ret;refine⟨an ?_,rfl⟩;rw[HR.out]
     first
      | decide
      | (rw[Bool.eq_iff_iff];simp only[Bool.or_eq_true,Bool.and_eq_true,beq_iff_eq,decide_eq_true_eq,Bool.false_and,Bool.true_and,Bool.or_false];omega)
      | (rw[Bool.eq_iff_iff];simp;omega)
   | false =>
    go_wp2
    all_goals
     go_ret;refine⟨an ?_,rfl⟩;rw[HR.out]
     first
      | decide
      | (rw[Bool.eq_iff_iff];simp only[Bool.or_eq_true,Bool.and_eq_true,beq_iff_eq,decide_eq_true_eq,Bool.false_and,Bool.true_and,Bool.or_false];omega)
      | (rw[Bool.eq_iff_iff];simp;omega)
open Go.Proofs.YtkekkbciiohbkaaGreatDoor.F (bn aa av aq ar hid aj ab ah aR aK)
theorem dG{B:Nat}{a w:World}(h:Below B a w)(n:Nat):Below B a (w.drewN n):=h.trans ⟨rfl,rfl,rfl,Nat.le_refl _,fun _ _=>rfl⟩
end Go.Proofs.YtkekkbciiohbkaaGreatDoor.H
namespace Go.Proofs.YtkekkbciiohbkaaGreatDoor.E
open Go.RowKit
theorem dY(r:Int)(t:ByteArray)(w:World)(ht:t.size≤1000):Calls Tryz.prog 59 #[.int .i32 r,.string t] w fun e W'=>e=.returned (.bool ((U.bn t).contains r))∧W'=w:=by
 have HNO:=hid (Gq (l:=U.bn t) (r:=r));have HYES:=hid (fun j=>Db (l:=U.bn t) (r:=r) (j:=j));have HG:=hid (aq t);rw[U.aa]at HNO HYES;obtain⟨R,hR⟩:∃ R,(U.bn t).contains r=R:=⟨_,rfl⟩;rw[hR]at HNO HYES ⊢;clear hR;go_enter Tryz.func59,Tryz.ntmps59
 go_wp2_with fail
 go_loop [5] (fun v5=>∃ k:Nat,k≤t.size∧v5=.int .i64 k∧Hid (∀ j,j<k→¬ (U.bn t)[j]?.getD 0=r)) (fun v5=>t.size - (intOf v5).toNat)
 case atStart=>exact⟨0,Nat.zero_le _,rfl,(fun j hj=>by omega)⟩
 case round =>
  obtain⟨k,hk,rfl,HA⟩:=hrel;by_cases hlt:k<t.size
  ·have HX:=hid (HYES.out k hlt)
   have HS:Hid (¬ (U.bn t)[k]?.getD 0=r→∀ j,j<k+1→¬ (U.bn t)[j]?.getD 0=r):=fun h j hj=>by
    by_cases e:j=k
    ·rw[e];exact h
    ·exact HA.out j (by omega)
   have hg:=HG.out k hlt;have hb:=ar hlt;obtain⟨y,hy⟩:∃ y,(U.bn t)[k]?.getD 0=y:=⟨_,rfl⟩;rw[hy]at hg HX HS hb;have hg':=hg.symm;clear hy hg HA;by_cases he:y=r
   ·have HR:=hid (HX.out he)
    have heb:(y==r)=true:=by simpa using he
    clear HX HS he;go_wp2;go_ret;exact⟨by rw[HR.out];rfl,rfl⟩
   ·have HR:=hid (HS.out he)
    have heb:(y==r)=false:=by simpa using he
    clear HX HS he;go_wp2;exact⟨⟨k+1,by omega,by go_num,HR⟩,by simp[intOf];omega⟩
  ·have HR:=hid (HNO.out (fun j hj=>HA.out j (by omega)))
   go_wp2;go_ret;exact⟨by rw[HR.out];rfl,rfl⟩
theorem uJ{r:Int}{k:Nat}(hk:k≤6)(h:ctl r=true):inS r k=true:=by unfold inS;rw[decide_eq_true hk,h];rfl
theorem C7{r:Int}{k:Nat}(hk:k≤6)(h:ctl r=false):inS r k=(sgn k).contains r:=by unfold inS;rw[decide_eq_true hk,h];rfl
theorem BZ(r:Int)(k:Nat)(w:World):Calls Tryz.prog 37 #[.int .i32 r,.int .u8 k] w fun e W'=>e=.returned (.bool (inS r k))∧W'=w:=by
 by_cases h6:6<k
 ·have hz:(6:Int)<(k:Int):=by omega
  rw[mA h6];go_enter Tryz.func37,Tryz.ntmps37
  go_wp2;go_ret;exact⟨rfl,rfl⟩
 by_cases h1:r<32
 ·have hz:¬ (6:Int)<(k:Int):=by omega
  rw[uJ (by omega) (by unfold ctl;rw[decide_eq_true h1];rfl)];go_enter Tryz.func37,Tryz.ntmps37
  go_wp2;go_ret;exact⟨rfl,rfl⟩
 by_cases h2:126<r
 ·have hz:¬ (6:Int)<(k:Int):=by omega
  rw[uJ (by omega) (by unfold ctl;rw[decide_eq_true h2];simp)];go_enter Tryz.func37,Tryz.ntmps37
  go_wp2;go_ret;exact⟨rfl,rfl⟩
 have hc:ctl r=false:=by unfold ctl;rw[decide_eq_false h1,decide_eq_false h2];rfl
 rw[C7 (by omega) hc];have HAM:=hid (fun t W (h:t.size≤1000)=>dY r t W h);obtain rfl | rfl | rfl | rfl | rfl | rfl | rfl:k=0∨k=1∨k=2∨k=3∨k=4∨k=5∨k=6:=by omega
 ·go_enter Tryz.func37,Tryz.ntmps37
  go_wp2;go_ret;exact⟨rfl,rfl⟩
 all_goals
  generalize hR:List.contains _ r=R
  have HR:=hid hR;clear hR;go_enter Tryz.func37,Tryz.ntmps37
  go_wp2_with fail;refine(HAM.out _ _ (by decide)).mono ?_;rintro e w1 ⟨he,hw1⟩
  obtain rfl:e=.returned (.bool R):=he.trans (congrArg (fun b=>Ending.returned (.bool b)) HR.out);obtain rfl:=hw1.symm;go_wp2;go_ret;exact⟨rfl,rfl⟩
theorem l0(n:Int)(h0:0≤n)(h1:n≤15)(w:World):Calls Tryz.prog 38 #[.int .u8 n] w fun e W'=>e=.returned (.int .u8 (dg n))∧W'=w:=by
 go_enter Tryz.func38,Tryz.ntmps38
 go_wp2
 all_goals (go_ret;exact⟨U.aX (by unfold dg;split <;> omega),rfl⟩)
end Go.Proofs.YtkekkbciiohbkaaGreatDoor.E
