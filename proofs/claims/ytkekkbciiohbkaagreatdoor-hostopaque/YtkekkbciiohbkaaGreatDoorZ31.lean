/- Texts one behind the other: FU FM. -/
import Derived.Test.YtkekkbciiohbkaaGreatDoorZ30
import Derived.Test.YtkekkbciiohbkaaGreatDoorZ3
import Derived.Ground.NamesProg
import Derived.Shelf.Lay
import Derived.Shelf.Strings.LastIndex
import Derived.Shelf.Strings.SlTrimAscii
import Derived.Shelf.Strings.Split
set_option maxRecDepth 100000
set_option maxHeartbeats 16000000
set_option linter.unusedVariables false
set_option linter.unnecessarySimpa false
namespace Go.Proofs
open Go.Shelf Go.RowKit
shelf_lay Lays.n149 Nm 149 at Tryz as Tryz.laysLast
shelf_lay Lays.n160 Nm 160 at Tryz as Tryz.laysTrim
end Go.Proofs
namespace Go.Proofs.YtkekkbciiohbkaaGreatDoor.F
open Go.RowKit
def ud(l:List Int):List Int:=if l.getLast? = some 46 then l.dropLast else l
theorem jj:∀ l:List Int,spl (l++[46])=spl l++[[]]
 | []=>rfl
 | c::l=>by
  show spl (c::(l++[46]))=_
  rw[spl,jj l]
  conv=>rhs;rw[spl]
  split
  ·rfl
  ·have h:=bL l
   cases hs:spl l with
   | nil=>exact absurd hs h
   | cons a t=>rfl
theorem kl:∀ l:List Int,l≠[]→l.getLast? ≠ some 46→(spl l).getLast? ≠ some []
 | [],h,_=>absurd rfl h
 | [c],_,h=>by
  have hc:c≠46:=fun e=>h (by rw[e];rfl)
  rw[spl,if_neg hc];simp[spl]
 | c::d::l,_,h=>by
  have ih:=kl (d::l) (by simp) (by rw[List.getLast?_cons_cons]at h;exact h);rw[spl];have h0:=bL (d::l);split
  ·cases hs:spl (d::l) with
   | nil=>exact absurd hs h0
   | cons a t=>rw[List.getLast?_cons_cons];rw[hs]at ih;exact ih
  ·cases hs:spl (d::l) with
   | nil=>exact absurd hs h0
   | cons a t =>
    rw[hs]at ih;cases t with
    | nil=>simp
    | cons b u =>
     show((c::a)::b::u).getLast? ≠ _
     rw[List.getLast?_cons_cons]at ih ⊢;exact ih
theorem yA(l:List Int):prt l=spl (ud l):=by
 unfold prt ud;by_cases h:l.getLast? = some 46
 ·have hne:l≠[]:=fun e=>by rw[e]at h;cases h
  have e:l=l.dropLast++[46]:=by
   have h2:=List.dropLast_concat_getLast hne;rw[List.getLast?_eq_some_getLast hne]at h;rw[Option.some.inj h]at h2;exact h2.symm
  have e2:spl l=spl l.dropLast++[[]]:=by
   conv=>lhs;rw[e]
   exact jj _
  have hp:=List.length_pos_iff.2 (bL l.dropLast);rw[if_pos h,e2,if_pos ⟨by rw[List.length_append];simp;omega,by simp⟩];simp
 ·rw[if_neg h]
  by_cases hl:l=[]
  ·rw[hl];rfl
  ·rw[if_neg (fun hh=>kl l hl h hh.2)]
theorem qw:∀(a b:List Int),¬ 46∈b→(spl (a++46::b)).getLast? = some b
 | [],b,h=>by
  show(spl (46::b)).getLast? = _
  rw[kP,cS b h];rfl
 | c::a,b,h=>by
  have ih:=qw a b h;show(spl (c::(a++46::b))).getLast? = _
  have h0:=bL (a++46::b)
  have hlen:2≤(spl (a++46::b)).length:=by
   clear ih h h0
   induction a with
   | nil=>show 2≤(spl (46::b)).length;rw[kP];have:=List.length_pos_iff.2 (bL b);simp;omega
   | cons d a ih2 =>
    show 2≤(spl (d::(a++46::b))).length
    rw[spl];split
    ·simp;omega
    ·simp;omega
  rw[spl];cases hs:spl (a++46::b) with
  | nil=>exact absurd hs h0
  | cons x t =>
   rw[hs]at ih hlen;cases t with
   | nil=>simp at hlen
   | cons y u =>
    rw[List.getLast?_cons_cons]at ih;split
    ·rw[List.getLast?_cons_cons,List.getLast?_cons_cons];exact ih
    ·show((c::x)::y::u).getLast? = _
     rw[List.getLast?_cons_cons];exact ih
def kI(s:ByteArray):ByteArray:=if (bn s).getLast? = some 46 then s.extract 0 (s.size - 1) else s
theorem tN(s:ByteArray):bn (kI s)=ud (bn s):=by
 unfold kI ud;split
 ·rw[p7 s 0 (s.size - 1) (Nat.zero_le _) (by omega),List.drop_zero,Nat.sub_zero,List.dropLast_eq_take,aa]
 ·rfl
theorem nL(s:ByteArray):(kI s).size≤s.size:=by
 unfold kI;split
 ·simp
 ·exact Nat.le_refl _
theorem Ix(a:UInt8):(⟨#[a]⟩:ByteArray).toList=[a]:=by rw[ByteArray.toList_eq]
theorem CW(s:ByteArray)(h:0<s.size):((s.extract (s.size - 1) s.size).toList==[46])=decide ((bn s).getLast? = some 46):=by
 rw[←Ix,aR,aj];apply decide_eq_decide.2;rw[List.getLast?_eq_getElem?,←aa] ;rw[←aa]at h
 generalize bn s=l at *
 have hd:l.drop (l.length - 1)=[l[l.length - 1]'(by omega)]:=by
  rw[List.drop_eq_getElem_cons (by omega),show l.length - 1+1=l.length by omega,List.drop_length]
 rw[hd,List.getElem?_eq_getElem (by omega)];simp[bn]
theorem dK(s:ByteArray)(w:World)(hs:s.size≤400000000):Calls Tryz.prog 119 #[.string s] w fun e W'=>e=.returned (.string (kI s))∧W'=w:=by
 by_cases h1:1≤s.size
 ·have h1z:(1:Int)≤(s.size:Int):=by omega
  have he:=CW s h1;have HU:Hid (kI s=if (bn s).getLast? = some 46 then s.extract 0 (s.size - 1) else s):=rfl;by_cases hq:(bn s).getLast? = some 46
  ·rw[decide_eq_true hq]at he
   rw[HU.out,if_pos hq];clear HU hq;go_enter Tryz.func119,Tryz.ntmps119
   go_wp2;go_ret;exact⟨rfl,rfl⟩
  ·rw[decide_eq_false hq]at he
   rw[HU.out,if_neg hq];clear HU hq;go_enter Tryz.func119,Tryz.ntmps119
   go_wp2;go_ret;exact⟨rfl,rfl⟩
 ·have h1z:¬ (1:Int)≤(s.size:Int):=by omega
  have hu:kI s=s:=by
   unfold kI;have:bn s=[]:=List.length_eq_zero_iff.1 (by rw[aa];omega);rw[this,if_neg (by simp)]
  rw[hu];clear hu;go_enter Tryz.func119,Tryz.ntmps119
  go_wp2;go_ret;exact⟨rfl,rfl⟩
theorem wt(s:ByteArray)(w:World)(hs:s.size≤400000000):Calls Tryz.prog 101 #[.string s,.int .u8 46] w fun e W'=>e=.returned (.int .i64 (Lib.lastIndexByte s 46))∧W'=w:=by
 have h:=Any.strings_LastIndexByte Tryz.laysLast s 46 (by omega) w;have hf:Tryz.laysLast_ren.f 149=101:=by kernel_rfl
 rw[hf]at h;exact h
def nG:ByteArray:=⟨#[48,49,50,51,52,53,54,55,56,57]⟩
theorem xQ(s:ByteArray)(w:World)(hs:s.size≤400000000):Calls Tryz.prog 122 #[.string s,.string nG] w fun e W'=>e=.returned (.string ⟨(Lib.trimS s.data.toList nG.data.toList).toArray⟩)∧Below w.heap.size w W':=by
 have h:=Any.strings_Trim_laid Tryz.laysTrim (by kernel_rfl) s nG w (by omega) (by decide) (ascii_of_all (by decide));have hf:Tryz.laysTrim_ren.f 160=122:=by kernel_rfl
 rw[hf]at h;exact h
theorem qc(s:ByteArray)(j:Nat)(h:j<s.size):((s.data[j]!).toNat:Int)=(bn s)[j]?.getD 0:=by
 rw[aq s j h];have:s.data[j]! = s[j]:=LastIndex.byteBang s j h;rw[this]
theorem wA(s:ByteArray):∃ k:Nat,k≤s.size∧Lib.lastIndexByte s 46=(k:Int) - 1∧(spl (bn s)).getLast? = some (bn (s.extract k s.size)):=by
 rcases Lib.lastIndexByte_spec s 46 with⟨h1,h2⟩ | ⟨i,hi,h1,h2,h3⟩
 ·refine⟨0,Nat.zero_le _,by rw[h1];rfl,?_⟩
  rw[aj,List.drop_zero]
  have hn:¬ 46∈bn s:=by
   intro hm
   obtain⟨j,hj,e⟩:=List.mem_iff_getElem.1 hm;rw[aa]at hj;refine h2 j hj ?_;rw[qc s j hj,List.getElem?_eq_getElem (by rw[aa];exact hj),e];rfl
  rw[cS _ hn];rfl
 ·refine⟨i+1,by omega,by rw[h1];omega,?_⟩
  rw[aj];rw[qc s i hi]at h2
  have e:bn s=(bn s).take i++46::(bn s).drop (i+1):=by
   have h4:i<(bn s).length:=by rw[aa];exact hi
   have h5:(bn s).drop i=46::(bn s).drop (i+1):=by
    rw[List.drop_eq_getElem_cons h4];rw[List.getElem?_eq_getElem h4]at h2;rw[show(bn s)[i]=46 from h2]
   rw[←h5,List.take_append_drop]
  have hn:¬ 46∈(bn s).drop (i+1):=by
   intro hm
   obtain⟨j,hj,e⟩:=List.mem_iff_getElem.1 hm;rw[List.length_drop,aa]at hj;refine h3 (i+1+j) (by omega) (by omega) ?_;rw[qc s _ (by omega),List.getElem?_eq_getElem (by rw[aa];omega)];rw[List.getElem_drop]at e;exact e
  conv=>lhs;rw[e]
  exact qw _ _ hn
theorem pW:∀ n:Fin 256,(nG.data.toList.contains (UInt8.ofNat n.val))=ten (n.val:Int):=by decide +kernel
theorem jM(b:UInt8):nG.data.toList.contains b=ten (b.toNat:Int):=by
 have h:=pW ⟨b.toNat,b.toNat_lt⟩;simp only[UInt8.ofNat_toNat]at h;exact h
theorem th{p:UInt8→Bool}:∀ {l:List UInt8},l.dropWhile p=[]↔∀ b∈l,p b=true
 | []=>by simp
 | a::l=>by
  rw[List.dropWhile_cons];cases h:p a with
  | true=>rw[if_pos rfl,th];simp[h]
  | false=>simp[h]
theorem xL{p:UInt8→Bool}{b:UInt8}:∀ {l:List UInt8},b∈l.takeWhile p→p b=true
 | [],h=>by simp at h
 | a::l,h=>by
  rw[List.takeWhile_cons]at h;cases hp:p a with
  | true =>
   rw[hp,if_pos rfl,List.mem_cons]at h;rcases h with rfl | h
   ·exact hp
   ·exact xL h
  | false=>rw[hp]at h;simp at h
theorem IF(y:Int):(y != 8)=decide (y≠8):=by by_cases h:y=8 <;> simp[h]
theorem xP(l cs:List UInt8):(Lib.trimS l cs=[])↔∀ b∈l,cs.contains b=true:=by
 unfold Lib.trimS Lib.trimLeftS Lib.trimRightS
 constructor
 ·intro h b hb
  rw[th]at h;have h2:=List.takeWhile_append_dropWhile (p:=(cs.contains ·)) (l:=l.reverse);have hb':b∈l.reverse:=List.mem_reverse.2 hb;rw[←h2,List.mem_append]at hb';rcases hb' with hb' | hb'
  ·exact xL hb'
  ·exact h b (List.mem_reverse.2 hb')
 ·intro h
  have:l.reverse.dropWhile (cs.contains ·)=[]:=th.2 (fun b hb=>h b (List.mem_reverse.1 hb));rw[this];rfl
theorem xO(s:ByteArray):(⟨(Lib.trimS s.data.toList nG.data.toList).toArray⟩:ByteArray).toList.isEmpty=(bn s).all ten:=by
 rw[ByteArray.toList_eq,Bool.eq_iff_iff,List.isEmpty_iff,List.all_eq_true];show Lib.trimS _ _=[]↔_
 rw[xP];unfold bn
 constructor
 ·intro h x hx
  obtain⟨b,hb,rfl⟩:=List.mem_map.1 hx;rw[←jM];exact h b hb
 ·intro h b hb
  rw[jM];exact h _ (List.mem_map.2 ⟨b,hb,rfl⟩)
theorem GB{p:List Int}(h:isX p=true):jE p=decide ((num p).2≠8):=by
 unfold jE;have hx:=of_decide_eq_true h
 have:p.all ten=false:=by
  rw[Bool.eq_false_iff];intro ha
  match p,hx with
  | [],hx=>simp at hx
  | [a],hx=>simp at hx
  | a::b::r,hx =>
   have h1:=List.all_eq_true.1 ha b (by simp);have h2:=of_decide_eq_true h1;have h3:b=120∨b=88:=by simpa using hx.2.2
   omega
 rw[this,h,Bool.and_false,Bool.false_or,Bool.true_and]
theorem GC{p:List Int}(h:isX p=false):jE p=(decide (p≠[])&&p.all ten):=by unfold jE;rw[h];simp
theorem Ah(s:ByteArray)(w:World)(hs:s.size≤400000000):
  Calls Tryz.prog 74 #[.string s] w fun e W'=>e=.returned (.bool (ends (bn s)))∧Below w.heap.size w W':=by
 have HU:=hid (fun W=>dK s W hs);have hus:=nL s;have HE:Hid (ends (bn s)=jE ((spl (bn (kI s))).getLast?.getD [])):=by show _=_;unfold ends;rw[yA,tN]
 obtain⟨U,hU⟩:∃ U,kI s=U:=⟨_,rfl⟩;rw[hU]at HU hus HE;clear hU;have HLI:=hid (fun W=>wt U W (by omega));obtain⟨k,hk,hli,hlp⟩:=wA U;rw[hli]at HLI;rw[hlp]at HE;clear hli hlp;obtain⟨D,hD⟩:∃ D,U.extract k U.size=D:=⟨_,rfl⟩;have hDs:D.size≤400000000:=by rw[←hD];simp;omega
 rw[hD]at HE;have HSX:=hid (fun W=>kn D W hDs);have HNU:=hid (fun W=>di D W hDs);have HTR:=hid (fun W=>xQ D W hDs);have HTT:=hid (xO D);have HEX:=hid (GB (p:=bn D));have HEN:=hid (GC (p:=bn D));have hkz:(k:Int) - 1+1=(k:Int):=by omega
 have HB:Hid (Below w.heap.size w w):=Below.refl _ _;rw[HE.out];clear HE;show Calls _ _ _ _ fun e W'=>e=.returned (.bool (jE (bn D)))∧_
 cases hX:isX (bn D) with
 | true =>
  rw[HEX.out hX];rw[hX]at HSX;unfold cX at HNU
  obtain⟨⟨x,y⟩,hxy⟩:∃ p,num (bn D)=p:=⟨_,rfl⟩;rw[hxy]at HNU ⊢;clear HEX HEN hX hxy HTR HTT;go_enter Tryz.func74,Tryz.ntmps74
  go_wp2_with(first
    | (go_at_call 119;refine(HU.out _).mono ?_;rintro e w2 ⟨rfl,hw2⟩;obtain rfl:=hw2.symm)
    | (go_at_call 101;refine(HLI.out _).mono ?_;rintro e w2 ⟨rfl,hw2⟩;obtain rfl:=hw2.symm)
    | (go_at_call 120;refine(HSX.out _).mono ?_;rintro e w2 ⟨rfl,hw2⟩;obtain rfl:=hw2.symm)
    | (go_at_call 121;refine(HNU.out _).mono ?_;rintro e w2 ⟨rfl,B2⟩))
  go_ret;exact⟨by rw[←IF];rfl,B2⟩
 | false =>
  rw[HEN.out hX];rw[hX]at HSX;rw[←HTT.out];clear HEX HEN hX HTT HNU;by_cases hd0:D.size=0
  ·have he:D.toList.isEmpty=true:=ah D hd0
   have hn:decide (bn D≠[])=false:=decide_eq_false (fun h=>h (List.length_eq_zero_iff.1 (by rw[aa];exact hd0)));rw[hn,Bool.false_and];clear hn HTR hd0;go_enter Tryz.func74,Tryz.ntmps74
   go_wp2_with(first
     | (go_at_call 119;refine(HU.out _).mono ?_;rintro e w2 ⟨rfl,hw2⟩;obtain rfl:=hw2.symm)
     | (go_at_call 101;refine(HLI.out _).mono ?_;rintro e w2 ⟨rfl,hw2⟩;obtain rfl:=hw2.symm)
     | (go_at_call 120;refine(HSX.out _).mono ?_;rintro e w2 ⟨rfl,hw2⟩;obtain rfl:=hw2.symm))
   go_ret;exact⟨rfl,HB.out⟩
  ·have he:D.toList.isEmpty=false:=ab D (by omega)
   have hn:decide (bn D≠[])=true:=decide_eq_true (fun h=>hd0 (by rw[←aa,h];rfl));rw[hn,Bool.true_and];clear hn hd0;obtain⟨T,hT⟩:∃ T:ByteArray,(⟨(Lib.trimS D.data.toList nG.data.toList).toArray⟩:ByteArray)=T:=⟨_,rfl⟩;rw[hT]at HTR ⊢;clear hT;unfold nG at HTR
   go_enter Tryz.func74,Tryz.ntmps74
   go_wp2_with(first
     | (go_at_call 119;refine(HU.out _).mono ?_;rintro e w2 ⟨rfl,hw2⟩;obtain rfl:=hw2.symm)
     | (go_at_call 101;refine(HLI.out _).mono ?_;rintro e w2 ⟨rfl,hw2⟩;obtain rfl:=hw2.symm)
     | (go_at_call 120;refine(HSX.out _).mono ?_;rintro e w2 ⟨rfl,hw2⟩;obtain rfl:=hw2.symm)
     | (go_at_call 122;refine(HTR.out _).mono ?_;rintro e w2 ⟨rfl,B2⟩))
   go_ret;exact⟨rfl,B2⟩
end Go.Proofs.YtkekkbciiohbkaaGreatDoor.F
namespace Go.Proofs
open Go.Shelf Go.RowKit
shelf_lay Lays.n147 Nm 147 at Tryz as Tryz.laysSplN
end Go.Proofs
namespace Go.Proofs.YtkekkbciiohbkaaGreatDoor.F
open Go.RowKit
def Max(W:World):Prop:=∃ m:Int,W.cell? ⟨1,0,none⟩=some (.int .i64 m)
theorem Max.below{w w':World}(h:Max w)(hb:Below w.heap.size w w'):Max w':=by
 obtain⟨m,hm⟩:=h;exact⟨m,(hb.cell (p:=⟨1,0,none⟩) (jw hm)).trans hm⟩
def nn(l:List UInt8):List Int:=l.map fun c=>(c.toNat:Int)
theorem e9{l:List UInt8}:46∈nn l↔46∈l:=by
 unfold nn;rw[List.mem_map]
 constructor
 ·rintro⟨c,hc,e⟩
  have:c=46:=UInt8.toNat_inj.1 (by have h:(46:UInt8).toNat=46:=rfl;omega);rw[←this];exact hc
 ·intro h;exact⟨46,h,rfl⟩
theorem BI{l:List Int}(h:46∈l):2≤(spl l).length:=by
 obtain⟨a,b,rfl⟩:=List.append_of_mem h;clear h
 induction a with
 | nil =>
  show 2≤(spl (46::b)).length
  rw[kP];have:=List.length_pos_iff.2 (bL b);rw[List.length_cons];omega
 | cons d a ih =>
  show 2≤(spl (d::(a++46::b))).length
  rw[spl];split
  ·rw[List.length_cons];omega
  ·rw[List.length_cons,List.length_tail];omega
theorem He:∀(k:Nat) (l:List UInt8),((spl (nn l)).length≤k+1∧(Lib.splitK [46] 0 k l).map nn=spl (nn l))∨(k+1<(spl (nn l)).length∧(Lib.splitK [46] 0 k l).length=k+1)
 | 0,l=>by
  by_cases h:46∈l
  ·right
   have:=BI (e9.2 h);exact⟨by omega,rfl⟩
  ·left
   have hs:=cS (nn l) (fun hh=>h (e9.1 hh));rw[hs];exact⟨by simp,rfl⟩
 | k+1,l=>by
  have hge:=Lib.indexByte_ge l 46;have hi1:=Lib.index_one l 46;by_cases hm:Lib.indexByte l 46=-1
  ·left
   have hn:=Lib.indexByte_none hm
   have h:¬ 46∈l:=fun hh=>by
    obtain⟨j,hj,e⟩:=List.mem_iff_getElem.1 hh;exact hn j (by rw[List.getElem?_eq_getElem hj,e])
   have hs:=cS (nn l) (fun hh=>h (e9.1 hh));rw[hs];refine⟨by simp,?_⟩;rw[Lib.splitK,hi1,hm];rfl
  ·obtain⟨i,hi⟩:∃ i:Nat,Lib.indexByte l 46=i:=⟨(Lib.indexByte l 46).toNat,by omega⟩
   obtain⟨h1,h2⟩:=Lib.indexByte_some hi;have hil:i<l.length:=(List.getElem?_eq_some_iff.1 h1).1
   have e:l=l.take i++46::l.drop (i+1):=by
    have h5:l.drop i=46::l.drop (i+1):=by
     rw[List.drop_eq_getElem_cons hil];rw[List.getElem?_eq_getElem hil]at h1;rw[Option.some.inj h1]
    rw[←h5,List.take_append_drop]
   have hn:¬ 46∈l.take i:=fun hh=>by
    obtain⟨j,hj,e⟩:=List.mem_iff_getElem.1 hh;rw[List.length_take]at hj;rw[List.getElem_take]at e;exact h2 j (by omega) (by rw[List.getElem?_eq_getElem (by omega),e])
   have es:spl (nn l)=nn (l.take i)::spl (nn (l.drop (i+1))):=by
    conv=>lhs;rw[e]
    rw[show nn (l.take i++46::l.drop (i+1))=nn (l.take i)++46::nn (l.drop (i+1)) by unfold nn;rw[List.map_append];rfl];exact ck _ _ (fun hh=>hn (e9.1 hh))
   have ek:Lib.splitK [46] 0 (k+1) l=l.take i::Lib.splitK [46] 0 k (l.drop (i+1)):=by
    rw[Lib.splitK,hi1,hi,if_neg (by simp)];simp
   rw[es,ek];rcases He k (l.drop (i+1)) with⟨g1,g2⟩ | ⟨g1,g2⟩
   ·left
    exact⟨by rw[List.length_cons];omega,by rw[List.map_cons,g2]⟩
   ·right
    exact⟨by rw[List.length_cons];omega,by rw[List.length_cons,g2]⟩
theorem gy(U:ByteArray)(qs:List ByteArray)(hq:qs=Lib.splitB ⟨#[46]⟩ 0 (min 5 (U.size+1) - 1) U):((spl (bn U)).length≤4∧qs.map bn=spl (bn U))∨(4<(spl (bn U)).length∧4<qs.length):=by
 have hd:=Lib.splitB_data ⟨#[46]⟩ 0 (min 5 (U.size+1) - 1) U;rw[←hq]at hd
 have hb:qs.map bn=(Lib.splitK [46] 0 (min 5 (U.size+1) - 1) U.data.toList).map nn:=by
  have h2:qs.map bn=(qs.map (·.data.toList)).map nn:=by rw[List.map_map];rfl
  rw[h2,hd]
 have hl:qs.length=(Lib.splitK [46] 0 (min 5 (U.size+1) - 1) U.data.toList).length:=by
  have:=congrArg List.length hb
  rwa [List.length_map,List.length_map]at this
 have hc:=oW (bn U);rw[aa]at hc;rcases He (min 5 (U.size+1) - 1) U.data.toList with⟨g1,g2⟩ | ⟨g1,g2⟩
 ·have g1':(spl (bn U)).length≤min 5 (U.size+1) - 1+1:=g1
  have g2':qs.map bn=spl (bn U):=hb.trans g2;by_cases h4:(spl (bn U)).length≤4
  ·exact .inl ⟨h4,g2'⟩
  ·right
   refine⟨by omega,?_⟩;have:=congrArg List.length g2';rw[List.length_map]at this;omega
 ·have g1':min 5 (U.size+1) - 1+1<(spl (bn U)).length:=g1
  right
  rw[hl,g2];omega
theorem ja{done:List ByteArray}{N j:Nat}(h:j<done.length):(Lib.cellsOf done N)[j]? = some (.string (done[j]?.getD ⟨#[]⟩)):=by
 unfold Lib.cellsOf;rw[List.getElem?_toArray,List.getElem?_append_left (by simpa using h),List.getElem?_map,List.getElem?_eq_getElem h];rfl
theorem gW(w:World)(t:TypeId)(cs:Array Value)(j:Nat):(w.alloc (.cells cs t)).cell? ⟨w.heap.size,j,none⟩=cs[j]? := by
 have hb:(w.alloc (.cells cs t)).heap[w.heap.size]? = some (.cells cs t):=heap_alloc_new w _
 generalize w.alloc (.cells cs t)=W at hb ⊢
 simp[World.cell?,hb]
theorem fJ(U:ByteArray)(w:World)(hU:U.size≤400000000)(hM:Max w):
  Calls Tryz.prog 105 #[.string U,.string ⟨#[46]⟩,.int .i64 5] w fun e W'=>(∃(b c:Nat) (qs:List ByteArray),e=.returned (.slice (some ⟨b,0,none⟩) qs.length c)∧(∀ j,j<qs.length→W'.cell? ⟨b,j,none⟩=some (.string (qs[j]?.getD ⟨#[]⟩)))∧(((spl (bn U)).length≤4∧qs.map bn=spl (bn U))∨(4<(spl (bn U)).length∧4<qs.length)))∧Below w.heap.size w W':=by
 obtain⟨m,hm⟩:=hM;have hf:Tryz.laysSplN_ren.f 147=105:=by kernel_rfl
 have hg:Tryz.laysSplN_ren.g 1=1:=by kernel_rfl
 have h:=Any.strings_SplitN Tryz.laysSplN (by kernel_rfl) U ⟨#[46]⟩ 5 m w (by omega) (by rw[hg];exact hm) (by decide) (by decide) (by decide);rw[hf]at h;refine h.mono ?_;rintro e W' ⟨rfl,rfl⟩
 refine⟨⟨_,_,_,rfl,fun j hj=>?_,gy U _ rfl⟩,(Below.refl _ w).alloc (Nat.le_refl _) _⟩;rw[gW];exact ja hj
end Go.Proofs.YtkekkbciiohbkaaGreatDoor.F
