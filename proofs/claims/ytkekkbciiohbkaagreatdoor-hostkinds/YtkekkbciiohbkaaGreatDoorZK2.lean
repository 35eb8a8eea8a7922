/- Texts one behind the other: FQ FG FE VP. -/
import Derived.Test.YtkekkbciiohbkaaGreatDoorZ3
import Derived.Test.YtkekkbciiohbkaaGreatDoorZK1
import Derived.Test.YtkekkbciiohbkaaGreatDoorZ2
import Derived.Test.YtkekkbciiohbkaaGreatDoorZ4
import Derived.Laws.AppendOwnNone
set_option maxRecDepth 100000
set_option maxHeartbeats 16000000
set_option linter.unusedVariables false
set_option linter.unnecessarySimpa false
namespace Go.Proofs.YtkekkbciiohbkaaGreatDoor.F
theorem dA:∀(ps:List (List Int)),ps≠[]→(∀ p∈ps,¬ 46∈p)→spl (join ps)=ps
 | [],h,_=>absurd rfl h
 | [p],_,h=>cS p (h p (by simp))
 | p::q::r,_,h=>by
  rw[join,ck p _ (h p (by simp)),dA (q::r) (by simp) (fun x hx=>h x (by simp at hx ⊢;right;exact hx))]
theorem cT:∀(ps:List (List Int)),ps≠[]→(∀ p∈ps,¬ 46∈p)→spl (join ps++[46])=ps++[[]]
 | [],h,_=>absurd rfl h
 | [p],_,h=>by
  show spl (p++46::[])=_
  rw[ck p _ (h p (by simp))];rfl
 | p::q::r,_,h=>by
  rw[join,List.append_assoc];show spl (p++46::(join (q::r)++[46]))=_
  rw[ck p _ (h p (by simp)),cT (q::r) (by simp) (fun x hx=>h x (by simp at hx ⊢;right;exact hx))];rfl
theorem gC{ps:List (List Int)}(hne:ps≠[])(hd:∀ p∈ps,¬ 46∈p)(hl:ps.getLast? ≠ some []):prt (join ps)=ps:=by
 unfold prt;rw[dA ps hne hd,if_neg (fun h=>hl h.2)]
theorem ph{ps:List (List Int)}(hne:ps≠[])(hd:∀ p∈ps,¬ 46∈p):prt (join ps++[46])=ps:=by
 have hl:0<ps.length:=List.length_pos_iff.2 hne;unfold prt;rw[cT ps hne hd,if_pos ⟨by simp;omega,by simp⟩];simp
theorem mH{b:Nat}{c:Int}(hb:b≤10)(h:bW b c=true):ten c=true:=by
 have:=of_decide_eq_true h;unfold ten;refine decide_eq_true ?_;unfold hx at this
 split at this
 ·assumption
 ·split at this
  ·omega
  ·split at this <;> omega
theorem mI{b:Nat}{c:Int}(h:bW b c=true):c≠46:=fun e=>by
 rw[e]at h;have:=of_decide_eq_true h;exact absurd this.1 (by decide)
theorem iT{b:Nat}{l:List Int}(h:ok b l=true):¬ 46∈l:=fun hm=>mI (List.all_eq_true.1 h 46 hm) rfl
theorem oK{k n:Nat}(hn:n<2 ^ 64):¬ 46∈wrt k n:=by
 unfold wrt;split
 ·have:=iT (cY (b:=16) (by decide) (by decide) hn).1
  simp[this]
 ·split
  ·have:=iT (cY (b:=8) (by decide) (by decide) hn).1
   simp[this]
  ·exact iT (cY (b:=10) (by decide) (by decide) hn).1
theorem lq(k n:Nat):wrt k n≠[]:=by
 unfold wrt;split
 ·simp
 ·split
  ·simp
  ·exact lu 10 n
theorem iB{b:Nat}{l:List Int}(hb:b≤10)(h:ok b l=true):l.all ten=true:=List.all_eq_true.2 (fun c hc=>mH hb (List.all_eq_true.1 h c hc))
theorem pK{k n:Nat}(hn:n<2 ^ 64):jE (wrt k n)=true:=by
 unfold jE;by_cases h0:k=0
 ·have hx:isX (wrt k n)=true:=by unfold wrt isX;rw[if_pos h0];simp
  have he:(num (wrt k n)).2≠8:=by rw[jv hn];split <;> simp
  rw[hx,decide_eq_true he];simp
 ·have:(wrt k n).all ten=true:=by
   unfold wrt;rw[if_neg h0];split
   ·rw[List.all_cons,iB (b:=8) (by decide) (cY (by decide) (by decide) hn).1];rfl
   ·exact iB (b:=10) (by decide) (cY (by decide) (by decide) hn).1
  rw[this,decide_eq_true (lq k n)];rfl
def cC(vs:List (Nat×Nat)):List (Nat×Int):=vs.map fun v=>if 4294967296≤v.2 then (0,4) else (v.2,0)
theorem ln{vs:List (Nat×Nat)}(h:∀ v∈vs,v.2<2 ^ 64):(cE vs).map num=cC vs:=by
 unfold cE cC;rw[List.map_map];apply List.map_congr_left;intro v hv
 exact jv (h v hv)
theorem jU(vs:List (Nat×Nat)):(cC vs).any (fun x=>decide (x.2=8))=false:=by
 rw[List.any_eq_false];intro x hx
 obtain⟨v,_,rfl⟩:=List.mem_map.1 hx;split <;> simp
theorem gZ{vs:List (Nat×Nat)}(h4:vs.length≤4)(h:∀ v∈vs,v.2<2 ^ 64):adr (cE vs)=if lg vs.length (cC vs)=true then (0,4) else (sm 0 (cC vs),0):=by
 unfold adr;have hl:(cE vs).length=vs.length:=by unfold cE;simp
 rw[hl,if_neg (by omega),ln h,jU,if_neg (by simp)]
theorem ea{vs:List (Nat×Nat)}(h:∀ v∈vs,v.2<2 ^ 64):∀ p∈cE vs,¬ 46∈p:=by
 intro p hp
 obtain⟨v,hv,rfl⟩:=List.mem_map.1 hp;exact oK (h v hv)
theorem fg{vs:List (Nat×Nat)}:(cE vs).getLast? ≠ some []:=by
 intro e
 obtain⟨v,_,hv⟩:=List.mem_map.1 (List.mem_of_getLast? e);exact lq _ _ hv
theorem l6{vs:List (Nat×Nat)}(hne:vs≠[])(h4:vs.length≤4)(h:∀ v∈vs,v.2<2 ^ 64):prs (join (cE vs))=(if lg vs.length (cC vs)=true then (0,4) else (sm 0 (cC vs),0))∧prs (join (cE vs)++[46])=(if lg vs.length (cC vs)=true then (0,4) else (sm 0 (cC vs),0)):=by
 have hw:cE vs≠[]:=by unfold cE;simpa using hne
 unfold prs;rw[gC hw (ea h) fg,ph hw (ea h)];exact⟨gZ h4 h,gZ h4 h⟩
theorem fx{vs:List (Nat×Nat)}(hne:vs≠[])(h:∀ v∈vs,v.2<2 ^ 64):ends (join (cE vs))=true:=by
 have hw:cE vs≠[]:=by unfold cE;simpa using hne
 unfold ends;rw[gC hw (ea h) fg];cases hl:(cE vs).getLast? with
 | none=>exact absurd (List.getLast?_eq_none_iff.1 hl) hw
 | some p =>
  obtain⟨v,hv,rfl⟩:=List.mem_map.1 (List.mem_of_getLast? hl);exact pK (h v hv)
theorem pQ{a n:Nat}(ha:a<4294967296)(h1:1≤n)(h4:n≤4){ks:List Nat}(hk:ks.length=n):lg n (cC (ks.zip (cut a n)))=false∧sm 0 (cC (ks.zip (cut a n)))=a:=by
 have g:∀ x:Nat,x<4294967296→(if 4294967296≤x then ((0:Nat),(4:Int)) else (x,0))=(x,0):=fun x hx=>if_neg (by omega)
 obtain rfl | rfl | rfl | rfl:n=1∨n=2∨n=3∨n=4:=by omega
 ·match ks,hk with
  | [k1],_ =>
   simp only[cut,List.zip_cons_cons,List.zip_nil_right,cC,List.map_cons,List.map_nil,g a ha];exact⟨by simp[lg];omega,rfl⟩
 ·match ks,hk with
  | [k1,k2],_ =>
   simp only[cut,List.zip_cons_cons,List.zip_nil_right,cC,List.map_cons,List.map_nil,g (a / 16777216) (by omega),g (a % 16777216) (by omega)];exact⟨by simp[lg];omega,by simp[sm];omega⟩
 ·match ks,hk with
  | [k1,k2,k3],_ =>
   simp only[cut,List.zip_cons_cons,List.zip_nil_right,cC,List.map_cons,List.map_nil,g (a / 16777216) (by omega),g (a / 65536 % 256) (by omega),g (a % 65536) (by omega)];exact⟨by simp[lg];omega,by simp[sm];omega⟩
 ·match ks,hk with
  | [k1,k2,k3,k4],_ =>
   simp only[cut,List.zip_cons_cons,List.zip_nil_right,cC,List.map_cons,List.map_nil,g (a / 16777216) (by omega),g (a / 65536 % 256) (by omega),g (a / 256 % 256) (by omega),g (a % 256) (by omega)];exact⟨by simp[lg];omega,by simp[sm];omega⟩
open Go.RowKit
theorem PI.skip{l:List Int}{i fr:Nat}{qs:List (List Int)}(hi:i<l.length)(hc:l[i]?.getD 0≠46)(h:PI l i fr qs):PI l (i+1) fr qs:=by
 rcases h with⟨_,h2,h3,h4⟩ | ⟨h,_⟩
 ·refine .inl ⟨by omega,by omega,h3,fun j hj hji=>?_⟩
  by_cases e:j=i
  ·rw[e];exact hc
  ·exact h4 j hj (by omega)
 ·omega
theorem PI.last{l:List Int}{fr:Nat}{qs:List (List Int)}(h:PI l l.length fr qs)(f2:Nat):PI l (l.length+1) f2 (qs++[(l.drop fr).take (l.length - fr)]):=by
 rcases h with⟨_,h2,h3,h4⟩ | ⟨h,_⟩
 ·refine .inr ⟨rfl,?_⟩
  have e:(l.drop fr).take (l.length - fr)=l.drop fr:=List.take_of_length_le (by rw[List.length_drop];exact Nat.le_refl _);have hn:=gG (Nat.le_refl _) h4;rw[e]at hn ⊢;rw[h3,cS _ hn]
 ·omega
theorem Tryz.info9:(Tryz.prog.info? 9).map (fun i=>(i.zero,i.size,i.bytes))=some (some (.string ⟨#[]⟩),1,16):=by kernel_rfl
theorem ur{base n:Nat}{v:Value}{X:List Value}{W:World}(h:W.ownsRow base 9 1 v n X):∃ a cap,v=.slice a n cap:=by
 rcases h.2 with⟨rfl,h0⟩ | ⟨g,cap,cur,rfl,_⟩
 ·exact⟨none,0,by rw[h0]⟩
 ·exact⟨_,cap,rfl⟩
theorem sP{W:World}{base n:Nat}{v:Value}{qs:List ByteArray}(hn:n=qs.length)(h:W.ownsRow base 9 1 v n (qs.map Value.string)):∃ a c,v=.slice a n c∧n≤c∧(0<n→∃ b,a=some ⟨b,0,none⟩∧∀ j,j<n→W.cell? ⟨b,j,none⟩=some (.string (qs[j]?.getD ⟨#[]⟩))):=by
 rcases h.2 with⟨rfl,h0⟩ | ⟨g,cap,cur,rfl,hg,h3,h4⟩
 ·exact⟨none,0,by rw[h0],by omega,fun h=>by omega⟩
 ·refine⟨_,cap,rfl,h4.1,fun _=>⟨g,rfl,fun j hj=>?_⟩⟩
  rw[h.cellAt j (by omega),List.getElem?_map,List.getElem?_eq_getElem (by omega)];rfl
theorem uG{qs:List ByteArray}{z:Nat}(h:qs.length=z+1):(qs.map bn).getLast? = some (bn (qs[z]?.getD ⟨#[]⟩)):=by
 rw[List.getLast?_eq_getElem?,List.length_map,h,Nat.add_sub_cancel,List.getElem?_map,List.getElem?_eq_getElem (by omega)];rfl
def ve(l:List Int)(w:World)(e:Ending)(W':World):Prop :=
 (∃(b c:Nat) (qs:List ByteArray),e=.returned (.slice (some ⟨b,0,none⟩) qs.length c)∧qs≠[]∧qs.map bn=prt l∧∀ j,j<qs.length→W'.cell? ⟨b,j,none⟩=some (.string (qs[j]?.getD ⟨#[]⟩)))∧Below w.heap.size w W'
theorem sL(s:ByteArray)(w:World)(hs:s.size≤400000000):
  Calls Tryz.prog 33 #[.string s] w fun e W'=>ve (bn s) w e W':=by
 obtain⟨i0,hi0,hz0,hz1,hz2⟩:=info_parts Tryz.info9;have HLN:=hid (aa s);have HGT:=hid (aq s);have HSK:Hid (∀ i fr qs,i<s.size→(bn s)[i]?.getD 0≠46→PI (bn s) i fr qs→PI (bn s) (i+1) fr qs):=fun i fr qs hi=>PI.skip (by rw[aa];exact hi)
 have HDT:Hid (∀ i fr qs,i<s.size→(bn s)[i]?.getD 0=46→PI (bn s) i fr qs→PI (bn s) (i+1) (i+1) (qs++[((bn s).drop fr).take (i - fr)])):=fun i fr qs hi=>PI.dot (by rw[aa];exact hi)
 have HLA:Hid (∀ fr qs f2,PI (bn s) s.size fr qs→PI (bn s) (s.size+1) f2 (qs++[((bn s).drop fr).take (s.size - fr)])):=fun fr qs f2 h=>by
  rw[←aa s]at h ⊢;exact PI.last h f2
 have HSU:=hid (p7 s);go_enter Tryz.func33,Tryz.ntmps33
 go_wp2_with fail
 go_loopw [3,4,5] (fun v3 v4 v5 wr=>∃(i fr m c:Nat) (a:Option Addr) (qs:List ByteArray),i≤s.size+1∧m≤i∧(i≤s.size→fr≤i)∧fr≤s.size+1∧v3=.slice a m c∧v4=.int .i64 fr∧v5=.int .i64 i∧Hid (m=qs.length)∧Hid (PI (bn s) i fr (qs.map bn))∧Hid (wr.ownsRow w.heap.size 9 1 (.slice a m c) m (qs.map Value.string))∧Hid (Below w.heap.size w wr)) (fun _ _ v5 _=>s.size+1 - (intOf v5).toNat)
 case atStart=>exact⟨0,0,0,0,none,[],Nat.zero_le _,Nat.le_refl _,fun _=>Nat.le_refl _,Nat.zero_le _,rfl,rfl,rfl,rfl,PI.start _,World.ownsRow_nil _ _ _ _,Below.refl _ _⟩
 case round =>
  obtain⟨i,fr,m,c,a,qs,hi,hmi,hfr,hfs,rfl,rfl,rfl,HM,HP,HR,HB⟩:=hrel;have zj:=HB.out.size;have hmb:m≤800000010:=by omega
  by_cases hlt:i<s.size
  ·have hfi:=hfr (by omega)
   have hg:=(HGT.out i hlt).symm;have HS1:=hid (fun h=>HSK.out i fr _ hlt h HP.out);have HD1:=hid (fun h=>HDT.out i fr _ hlt h HP.out);obtain⟨y,hy⟩:∃ y,(bn s)[i]?.getD 0=y:=⟨_,rfl⟩;rw[hy]at hg HS1 HD1;have hne:((i:Int)==(s.size:Int))=false:=by simp;omega
   have hlez:(i:Int)≤(s.size:Int):=by omega
   clear hy hfr HSK HDT HLA;by_cases h46:y=46
   ·have hyb:(y==46)=true:=by simpa using h46
    obtain⟨D,hD⟩:∃ D,s.extract fr i=D:=⟨_,rfl⟩;have HDD:=hid hD;have HP2:=hid (HD1.out h46);have HE:Hid ((qs++[D]).map bn=qs.map bn++[((bn s).drop fr).take (i - fr)]):=by show _=_;rw[List.map_append,←HDD.out];simp[HSU.out fr i hfi (by omega)]
    clear HS1 HD1 h46 hD
    go_wp2_with(at_builtin;refine wpList_append_own _ rfl _ _ 53 rfl w.heap.size 9 i0 (.string ⟨#[]⟩) 1 16 Tryz.underlying53 hi0 hz0 hz1 hz2 rfl (by decide) _ _ _ rfl (HR.out.alloc _) ⟨wr.heap.size,0,none⟩ 1 1 [.string (s.extract fr i)] rfl rfl (ey _ _ _) (by simp[Value.oneCell']) (by unfold maxLen;omega) (by omega) (by simp;omega) ?_;intro v3 w3 r3 g3 _;obtain⟨a3,c3,rfl⟩:=ur r3)
    go_roundw
    case rel =>
     refine⟨i+1,i+1,m+1,c3,a3,qs++[D],by omega,by omega,fun _=>Nat.le_refl _,by omega,rfl,by go_num,by go_num,by show _=_;rw[List.length_append,←HM.out];rfl,?_,?_,below_grow (w1:=wr.alloc (.cells #[.string (s.extract fr i)] 9)) (HB.out.alloc HB.out.size _) (Nat.le_trans HB.out.size (by simp)) (HR.out.alloc _) g3⟩
     ·show PI _ _ _ _
      rw[HE.out];exact HP2.out
     ·show World.ownsRow _ _ _ _ _ _ _
      rw[List.map_append,←HDD.out];exact r3
    case measure=>simp[intOf];omega
   ·have hyb:(y==46)=false:=by simpa using h46
    have HP2:=hid (HS1.out h46);clear HS1 HD1 h46;go_wp2
    go_roundw
    case rel=>exact⟨i+1,fr,m,c,a,qs,by omega,by omega,fun _=>by omega,hfs,rfl,rfl,by go_num,HM,HP2,HR,HB⟩
    case measure=>simp[intOf];omega
  ·by_cases hq:i=s.size
   ·subst hq
    have hfi:=hfr (Nat.le_refl _);have HP2:=hid (HLA.out fr _ (s.size+1) HP.out);obtain⟨D,hD⟩:∃ D,s.extract fr s.size=D:=⟨_,rfl⟩;have HDD:=hid hD;have HE:Hid ((qs++[D]).map bn=qs.map bn++[((bn s).drop fr).take (s.size - fr)]):=by show _=_;rw[List.map_append,←HDD.out];simp[HSU.out fr s.size hfi (Nat.le_refl _)]
    clear hD hfr HSK HDT HLA
    go_wp2_with(at_builtin;refine wpList_append_own _ rfl _ _ 53 rfl w.heap.size 9 i0 (.string ⟨#[]⟩) 1 16 Tryz.underlying53 hi0 hz0 hz1 hz2 rfl (by decide) _ _ _ rfl (HR.out.alloc _) ⟨wr.heap.size,0,none⟩ 1 1 [.string (s.extract fr s.size)] rfl rfl (ey _ _ _) (by simp[Value.oneCell']) (by unfold maxLen;omega) (by omega) (by simp;omega) ?_;intro v3 w3 r3 g3 _;obtain⟨a3,c3,rfl⟩:=ur r3)
    go_roundw
    case rel =>
     refine⟨s.size+1,s.size+1,m+1,c3,a3,qs++[D],by omega,by omega,fun _=>by omega,by omega,rfl,by go_num,by go_num,by show _=_;rw[List.length_append,←HM.out];rfl,?_,?_,below_grow (w1:=wr.alloc (.cells #[.string (s.extract fr s.size)] 9)) (HB.out.alloc HB.out.size _) (Nat.le_trans HB.out.size (by simp)) (HR.out.alloc _) g3⟩
     ·show PI _ _ _ _
      rw[HE.out];exact HP2.out
     ·show World.ownsRow _ _ _ _ _ _ _
      rw[List.map_append,←HDD.out];exact r3
    case measure=>simp[intOf]
   ·have HDN:=hid (HP.out.done (by rw[aa];omega))
    have hgt:¬ ((i:Int)≤(s.size:Int)):=by omega
    obtain⟨a',c',e',hmc,hf⟩:=sP HM.out HR.out;cases e'
    have hm1:0<m:=by
     have h1:=bL (bn s);rw[HDN.out]at h1;have h2:qs≠[]:=fun e=>h1 (by rw[e];rfl)
     have:=List.length_pos_iff.2 h2;rw[HM.out];exact this
    obtain⟨b,rfl,hcb⟩:=hf hm1;obtain⟨z,hz⟩:∃ z,m=z+1:=⟨m - 1,by omega⟩;have hcz:=hcb z (by omega);have HCB:=hid hcb;have HLZ:=hid (uG (qs:=qs) (z:=z) (by rw[←HM.out];exact hz));obtain⟨D,hD⟩:∃ D,qs[z]?.getD ⟨#[]⟩=D:=⟨_,rfl⟩;rw[hD]at hcz HLZ;have hzz:(m:Int) - 1=(z:Int):=by omega
    have hzw:IntKind.i64.wrap (z:Int)=(z:Int):=by simp[IntKind.wrap,IntKind.bits,IntKind.signed];omega
    have hzl:(z:Int)<(m:Int):=by omega
    have hzc:(z:Int)≤(c:Int):=by omega
    have HZ:=hid hz;have HNE:Hid (qs≠[]):=fun e=>by rw[HM.out,e]at hm1;simp at hm1
    clear hD hcb hf hz HSK HDT HLA HSU HP HR;by_cases h1m:1<m
    ·have h1z:(1:Int)<(m:Int):=by omega
     by_cases hd0:D.size=0
     ·have he:D.toList.isEmpty=true:=ah D hd0
      have HRT:Hid (ve (bn s) w (.returned (.slice (some ⟨b,0,none⟩) z c)) wr):=by
       refine⟨⟨b,c,qs.dropLast,?_,?_,?_,?_⟩,HB.out⟩
       ·rw[List.length_dropLast,←HM.out,HZ.out,Nat.add_sub_cancel]
       ·intro e
        have:=congrArg List.length e;rw[List.length_dropLast,←HM.out]at this;simp at this;omega
       ·have hb0:bn D=[]:=List.length_eq_zero_iff.1 (by rw[aa];exact hd0)
        unfold prt;rw[HDN.out,if_pos ⟨by rw[List.length_map,←HM.out];exact h1m,by rw[HLZ.out,hb0]⟩,List.map_dropLast]
       ·intro j hj
        rw[List.length_dropLast,←HM.out]at hj;rw[HCB.out j (by omega),List.getElem?_dropLast,if_pos (by rw[←HM.out];exact hj)]
      clear HDN HLZ HCB HNE hd0;go_wp2;go_ret;exact HRT.out
     ·have he:D.toList.isEmpty=false:=ab D (by omega)
      have HRT:Hid (ve (bn s) w (.returned (.slice (some ⟨b,0,none⟩) m c)) wr):=by
       refine⟨⟨b,c,qs,by rw[HM.out],HNE.out,?_,fun j hj=>HCB.out j (by rw[HM.out];exact hj)⟩,HB.out⟩;unfold prt;rw[HDN.out,if_neg (fun h=>hd0 (by have h2:=h.2;rw[HLZ.out]at h2;rw[←aa,Option.some.inj h2];rfl))]
      clear HDN HLZ HCB HNE hd0;go_wp2;go_ret;exact HRT.out
    ·have h1z:¬ (1:Int)<(m:Int):=by omega
     have HRT:Hid (ve (bn s) w (.returned (.slice (some ⟨b,0,none⟩) m c)) wr):=by
      refine⟨⟨b,c,qs,by rw[HM.out],HNE.out,?_,fun j hj=>HCB.out j (by rw[HM.out];exact hj)⟩,HB.out⟩;unfold prt;rw[HDN.out,if_neg (fun h=>h1m (by have h2:=h.1;rw[List.length_map,←HM.out]at h2;exact h2))]
     clear HDN HLZ HCB HNE;go_wp2;go_ret;exact HRT.out
theorem sO{l:List Int}{qs:List ByteArray}{z:Nat}(h:qs.map bn=prt l)(hz:qs.length=z+1):(prt l).getLast?.getD []=bn (qs[z]?.getD ⟨#[]⟩):=by rw[←h,uG hz];rfl
theorem Ch(l:List Int):(prt l).length≤l.length+1:=by
 have:=oW l;unfold prt;split
 ·rw[List.length_dropLast];omega
 ·exact this
theorem Aq(p:List Int):dgs p 0=decide (p≠[]):=by unfold dgs;simp
theorem Ar{p:List Int}{k:Nat}(hk:k<p.length):dgs p (k+1)=(dgs p k&&ten (p[k]?.getD 0)):=by
 unfold dgs;rw[take_one p k hk,List.all_append,Bool.and_assoc];simp
theorem Dw{p:List Int}{k:Nat}(hk:p.length≤k):dgs p k=(decide (p≠[])&&p.all ten):=by unfold dgs;rw[List.take_of_length_le hk]
theorem Dq(p:List Int)(g:Bool)(h:(decide (p≠[])&&p.all ten)=g):jE p=(g||(isX p&&decide ((num p).2≠8))):=by unfold jE;rw[h]
theorem nV(s:ByteArray)(w:World)(hs:s.size≤400000000):
  Calls Tryz.prog 17 #[.string s] w fun e W'=>e=.returned (.bool (ends (bn s)))∧Below w.heap.size w W':=by
 have HPA:=hid (sL s w hs);obtain⟨R,hR⟩:∃ R,ends (bn s)=R:=⟨_,rfl⟩;have HRE:=hid hR;rw[hR];clear hR;go_enter Tryz.func17,Tryz.ntmps17
 go_wp2_with fail;refine HPA.out.mono ?_;rintro e w1 ⟨⟨b,c,qs,rfl,hne,hqs,hcb⟩,B1⟩
 obtain⟨z,hz⟩:∃ z,qs.length=z+1:=⟨qs.length - 1,by have:=List.length_pos_iff.2 hne;omega⟩;have hcz:=hcb z (by omega);have HEN:Hid (R=jE (bn (qs[z]?.getD ⟨#[]⟩))):=by show _=_;rw[←HRE.out];unfold ends;rw[sO hqs hz]
 have hml:qs.length≤400000001:=by
  have h1:=Ch (bn s);rw[←hqs,List.length_map,aa]at h1;omega
 have HSZ:Hid ((qs[z]?.getD ⟨#[]⟩).size≤400000000):=by
  show _≤_
  have h1:qs[z]?.getD ⟨#[]⟩∈qs:=by rw[List.getElem?_eq_getElem (by omega)];exact List.getElem_mem _
  exact Nat.le_trans (eo hqs h1) hs
 obtain⟨D,hD⟩:∃ D,qs[z]?.getD ⟨#[]⟩=D:=⟨_,rfl⟩;rw[hD]at hcz HEN HSZ;obtain⟨m,hm⟩:∃ m,qs.length=m:=⟨_,rfl⟩;rw[hm]at hz hml ⊢;have hds:=HSZ.out;have HB1:=hid B1;have hzz:(m:Int) - 1=(z:Int):=by omega
 have hzw:IntKind.i64.wrap (z:Int)=(z:Int):=by simp[IntKind.wrap,IntKind.bits,IntKind.signed];omega
 have hzl:(z:Int)<(m:Int):=by omega
 have HD0:Hid (dgs (bn D) 0=decide (bn D≠[])):=Aq _;have HDS:=hid (fun k (h:k<D.size)=>Ar (p:=bn D) (k:=k) (by rw[aa];exact h));have HDA:Hid (∀ k,D.size≤k→dgs (bn D) k=(decide (bn D≠[])&&(bn D).all ten)):=fun k h=>Dw (by rw[aa];exact h)
 have HGT:=hid (aq D);have HEP:=hid (Dq (bn D));clear hD HRE hqs hcb hne hm HSZ B1 HPA;by_cases hd0:D.size=0
 ·have hemp:D.toList.isEmpty=true:=ah D hd0
  have hnn:decide (bn D≠[])=false:=decide_eq_false (fun h=>h (List.length_eq_zero_iff.1 (by rw[aa];exact hd0)));have HAT:=hid hnn;clear hd0 hnn
  go_wp2_with fail
  go_loop [5,6] (fun v5 v6=>∃(k:Nat) (g:Bool),k≤D.size∧v5=.bool g∧v6=.int .i64 k∧Hid (g=dgs (bn D) k)) (fun _ v6=>D.size - (intOf v6).toNat)
  case atStart=>exact⟨0,_,Nat.zero_le _,rfl,rfl,by show _=_;rw[HD0.out,HAT.out]⟩
  case round =>
   obtain⟨k,g,hk,rfl,rfl,HG⟩:=hrel;by_cases hlt:k<D.size
   ·have HST:=hid (HDS.out k hlt)
    rw[←HG.out]at HST;have hg:=(HGT.out k hlt).symm;have hyb:=ar hlt;have HTE:Hid (ten ((bn D)[k]?.getD 0)=decide (48≤(bn D)[k]?.getD 0∧(bn D)[k]?.getD 0≤57)):=rfl;obtain⟨y,hy⟩:∃ y,(bn D)[k]?.getD 0=y:=⟨_,rfl⟩;rw[hy]at HST hg HTE hyb;obtain⟨hy0,hy1⟩:=hyb;clear hy HDA HEP HGT HDS HG;cases g with
    | false =>
     have HF:Hid (dgs (bn D) (k+1)=false):=by show _=_;rw[HST.out];rfl
     clear HST HTE;go_wp2;exact⟨⟨k+1,false,by omega,rfl,by go_num,HF.out.symm⟩,by simp[intOf];omega⟩
    | true =>
     by_cases c1:48≤y
     ·by_cases c2:y≤57
      ·have HF:Hid (dgs (bn D) (k+1)=true):=by show _=_;rw[HST.out,HTE.out,decide_eq_true ⟨c1,c2⟩];rfl
       clear HST HTE;go_wp2;exact⟨⟨k+1,true,by omega,rfl,by go_num,HF.out.symm⟩,by simp[intOf];omega⟩
      ·have HF:Hid (dgs (bn D) (k+1)=false):=by show _=_;rw[HST.out,HTE.out,decide_eq_false (fun h=>c2 h.2)];rfl
       clear HST HTE;go_wp2;exact⟨⟨k+1,false,by omega,rfl,by go_num,HF.out.symm⟩,by simp[intOf];omega⟩
     ·have HF:Hid (dgs (bn D) (k+1)=false):=by show _=_;rw[HST.out,HTE.out,decide_eq_false (fun h=>c1 h.1)];rfl
      clear HST HTE;go_wp2;exact⟨⟨k+1,false,by omega,rfl,by go_num,HF.out.symm⟩,by simp[intOf];omega⟩
   ·have HV:=hid (HEP.out g (by rw[←HDA.out k (by omega)];exact HG.out.symm))
    clear HDA HEP HDS HG HD0;cases g with
    | true =>
     have HRT:Hid (R=true):=by show _=_;rw[HEN.out,HV.out];rfl
     clear HV HEN;go_wp2;go_ret;exact⟨by rw[HRT.out];rfl,HB1.out⟩
    | false =>
     have HRF:Hid (R=(isX (bn D)&&decide ((num (bn D)).2≠8))):=by show _=_;rw[HEN.out,HV.out];rfl
     clear HV HEN;have HNU:Hid (∀ W,Calls Tryz.prog 34 #[.string D] W fun e W'=>e=.returned (.tuple #[.int .u64 ((num (bn D)).1:Nat),.int .i64 (num (bn D)).2])∧W'=W):=fun W=>ko D W hds
     obtain⟨N1,hN1⟩:∃ N1,(num (bn D)).1=N1:=⟨_,rfl⟩;obtain⟨N2,hN2⟩:∃ N2,(num (bn D)).2=N2:=⟨_,rfl⟩;rw[hN1,hN2]at HNU;rw[hN2]at HRF;clear hN1 hN2;by_cases h2:2≤D.size
     ·have h2z:(2:Int)≤(D.size:Int):=by omega
      have hg0:=(HGT.out 0 (by omega)).symm;have hg1:=(HGT.out 1 (by omega)).symm;obtain⟨e0,he0⟩:∃ e0,(bn D)[0]?.getD 0=e0:=⟨_,rfl⟩;obtain⟨e1,he1⟩:∃ e1,(bn D)[1]?.getD 0=e1:=⟨_,rfl⟩;have HXD:Hid (isX (bn D)=decide (2≤(bn D).length∧e0=48∧(e1=120∨e1=88))):=by show _=_;rw[←he0,←he1];rfl
      rw[aa]at HXD;rw[he0]at hg0;rw[he1]at hg1;clear he0 he1 HGT;by_cases c0:e0=48
      ·have b0:(e0==48)=true:=by simpa using c0
       by_cases c1:e1=120
       ·have b1:(e1==120)=true:=by simpa using c1
        have hX:isX (bn D)=true:=by rw[HXD.out];exact decide_eq_true ⟨h2,c0,.inl c1⟩
        by_cases c8:N2=8
        ·have b8:(N2 != 8)=false:=by simp[c8]
         have HV:Hid (R=false):=by show _=_;rw[HRF.out,hX,decide_eq_false (fun h=>h c8)];rfl
         clear HXD HRF hX c8 c0 c1
         go_wp2_with(go_at_call 34;refine(HNU.out _).mono ?_;rintro e w2 ⟨he2,hw2⟩;obtain rfl:=hw2.symm;obtain rfl:=he2)
         go_ret;exact⟨by rw[HV.out];rfl,HB1.out⟩
        ·have b8:(N2 != 8)=true:=by simpa using c8
         have HV:Hid (R=true):=by show _=_;rw[HRF.out,hX,decide_eq_true c8];rfl
         clear HXD HRF hX c8 c0 c1
         go_wp2_with(go_at_call 34;refine(HNU.out _).mono ?_;rintro e w2 ⟨he2,hw2⟩;obtain rfl:=hw2.symm;obtain rfl:=he2)
         go_ret;exact⟨by rw[HV.out];rfl,HB1.out⟩
       ·have b1:(e1==120)=false:=by simpa using c1
        by_cases c2:e1=88
        ·have b2:(e1==88)=true:=by simpa using c2
         have hX:isX (bn D)=true:=by rw[HXD.out];exact decide_eq_true ⟨h2,c0,.inr c2⟩
         by_cases c8:N2=8
         ·have b8:(N2 != 8)=false:=by simp[c8]
          have HV:Hid (R=false):=by show _=_;rw[HRF.out,hX,decide_eq_false (fun h=>h c8)];rfl
          clear HXD HRF hX c8 c0 c1 c2
          go_wp2_with(go_at_call 34;refine(HNU.out _).mono ?_;rintro e w2 ⟨he2,hw2⟩;obtain rfl:=hw2.symm;obtain rfl:=he2)
          go_ret;exact⟨by rw[HV.out];rfl,HB1.out⟩
         ·have b8:(N2 != 8)=true:=by simpa using c8
          have HV:Hid (R=true):=by show _=_;rw[HRF.out,hX,decide_eq_true c8];rfl
          clear HXD HRF hX c8 c0 c1 c2
          go_wp2_with(go_at_call 34;refine(HNU.out _).mono ?_;rintro e w2 ⟨he2,hw2⟩;obtain rfl:=hw2.symm;obtain rfl:=he2)
          go_ret;exact⟨by rw[HV.out];rfl,HB1.out⟩
        ·have b2:(e1==88)=false:=by simpa using c2
         have HV:Hid (R=false):=by show _=_;rw[HRF.out,HXD.out,decide_eq_false (fun h=>h.2.2.elim c1 c2)];rfl
         clear HXD HRF c0 c1 c2
         go_wp2_with(go_at_call 34;refine(HNU.out _).mono ?_;rintro e w2 ⟨he2,hw2⟩;obtain rfl:=hw2.symm;obtain rfl:=he2)
         go_ret;exact⟨by rw[HV.out];rfl,HB1.out⟩
      ·have b0:(e0==48)=false:=by simpa using c0
       have HV:Hid (R=false):=by show _=_;rw[HRF.out,HXD.out,decide_eq_false (fun h=>c0 h.2.1)];rfl
       clear HXD HRF c0
       go_wp2_with(go_at_call 34;refine(HNU.out _).mono ?_;rintro e w2 ⟨he2,hw2⟩;obtain rfl:=hw2.symm;obtain rfl:=he2)
       go_ret;exact⟨by rw[HV.out];rfl,HB1.out⟩
     ·have h2z:¬ (2:Int)≤(D.size:Int):=by omega
      have HV:Hid (R=false):=by
       show _=_
       have hX:isX (bn D)=false:=by unfold isX;exact decide_eq_false (fun h=>h2 (by have:=h.1;rw[aa]at this;exact this))
       rw[HRF.out,hX];rfl
      clear HRF HGT
      go_wp2_with(go_at_call 34;refine(HNU.out _).mono ?_;rintro e w2 ⟨he2,hw2⟩;obtain rfl:=hw2.symm;obtain rfl:=he2)
      go_ret;exact⟨by rw[HV.out];rfl,HB1.out⟩
 ·have hemp:D.toList.isEmpty=false:=ab D (by omega)
  have hnn:decide (bn D≠[])=true:=decide_eq_true (fun e=>hd0 (by rw[←aa,e];rfl));have HAT:=hid hnn;clear hnn
  go_wp2_with fail
  go_loop [5,6] (fun v5 v6=>∃(k:Nat) (g:Bool),k≤D.size∧v5=.bool g∧v6=.int .i64 k∧Hid (g=dgs (bn D) k)) (fun _ v6=>D.size - (intOf v6).toNat)
  case atStart=>exact⟨0,_,Nat.zero_le _,rfl,rfl,by show _=_;rw[HD0.out,HAT.out]⟩
  case round =>
   obtain⟨k,g,hk,rfl,rfl,HG⟩:=hrel;by_cases hlt:k<D.size
   ·have HST:=hid (HDS.out k hlt)
    rw[←HG.out]at HST;have hg:=(HGT.out k hlt).symm;have hyb:=ar hlt;have HTE:Hid (ten ((bn D)[k]?.getD 0)=decide (48≤(bn D)[k]?.getD 0∧(bn D)[k]?.getD 0≤57)):=rfl;obtain⟨y,hy⟩:∃ y,(bn D)[k]?.getD 0=y:=⟨_,rfl⟩;rw[hy]at HST hg HTE hyb;obtain⟨hy0,hy1⟩:=hyb;clear hy HDA HEP HGT HDS HG;cases g with
    | false =>
     have HF:Hid (dgs (bn D) (k+1)=false):=by show _=_;rw[HST.out];rfl
     clear HST HTE;go_wp2;exact⟨⟨k+1,false,by omega,rfl,by go_num,HF.out.symm⟩,by simp[intOf];omega⟩
    | true =>
     by_cases c1:48≤y
     ·by_cases c2:y≤57
      ·have HF:Hid (dgs (bn D) (k+1)=true):=by show _=_;rw[HST.out,HTE.out,decide_eq_true ⟨c1,c2⟩];rfl
       clear HST HTE;go_wp2;exact⟨⟨k+1,true,by omega,rfl,by go_num,HF.out.symm⟩,by simp[intOf];omega⟩
      ·have HF:Hid (dgs (bn D) (k+1)=false):=by show _=_;rw[HST.out,HTE.out,decide_eq_false (fun h=>c2 h.2)];rfl
       clear HST HTE;go_wp2;exact⟨⟨k+1,false,by omega,rfl,by go_num,HF.out.symm⟩,by simp[intOf];omega⟩
     ·have HF:Hid (dgs (bn D) (k+1)=false):=by show _=_;rw[HST.out,HTE.out,decide_eq_false (fun h=>c1 h.1)];rfl
      clear HST HTE;go_wp2;exact⟨⟨k+1,false,by omega,rfl,by go_num,HF.out.symm⟩,by simp[intOf];omega⟩
   ·have HV:=hid (HEP.out g (by rw[←HDA.out k (by omega)];exact HG.out.symm))
    clear HDA HEP HDS HG HD0;cases g with
    | true =>
     have HRT:Hid (R=true):=by show _=_;rw[HEN.out,HV.out];rfl
     clear HV HEN;go_wp2;go_ret;exact⟨by rw[HRT.out];rfl,HB1.out⟩
    | false =>
     have HRF:Hid (R=(isX (bn D)&&decide ((num (bn D)).2≠8))):=by show _=_;rw[HEN.out,HV.out];rfl
     clear HV HEN;have HNU:Hid (∀ W,Calls Tryz.prog 34 #[.string D] W fun e W'=>e=.returned (.tuple #[.int .u64 ((num (bn D)).1:Nat),.int .i64 (num (bn D)).2])∧W'=W):=fun W=>ko D W hds
     obtain⟨N1,hN1⟩:∃ N1,(num (bn D)).1=N1:=⟨_,rfl⟩;obtain⟨N2,hN2⟩:∃ N2,(num (bn D)).2=N2:=⟨_,rfl⟩;rw[hN1,hN2]at HNU;rw[hN2]at HRF;clear hN1 hN2;by_cases h2:2≤D.size
     ·have h2z:(2:Int)≤(D.size:Int):=by omega
      have hg0:=(HGT.out 0 (by omega)).symm;have hg1:=(HGT.out 1 (by omega)).symm;obtain⟨e0,he0⟩:∃ e0,(bn D)[0]?.getD 0=e0:=⟨_,rfl⟩;obtain⟨e1,he1⟩:∃ e1,(bn D)[1]?.getD 0=e1:=⟨_,rfl⟩;have HXD:Hid (isX (bn D)=decide (2≤(bn D).length∧e0=48∧(e1=120∨e1=88))):=by show _=_;rw[←he0,←he1];rfl
      rw[aa]at HXD;rw[he0]at hg0;rw[he1]at hg1;clear he0 he1 HGT;by_cases c0:e0=48
      ·have b0:(e0==48)=true:=by simpa using c0
       by_cases c1:e1=120
       ·have b1:(e1==120)=true:=by simpa using c1
        have hX:isX (bn D)=true:=by rw[HXD.out];exact decide_eq_true ⟨h2,c0,.inl c1⟩
        by_cases c8:N2=8
        ·have b8:(N2 != 8)=false:=by simp[c8]
         have HV:Hid (R=false):=by show _=_;rw[HRF.out,hX,decide_eq_false (fun h=>h c8)];rfl
         clear HXD HRF hX c8 c0 c1
         go_wp2_with(go_at_call 34;refine(HNU.out _).mono ?_;rintro e w2 ⟨he2,hw2⟩;obtain rfl:=hw2.symm;obtain rfl:=he2)
         go_ret;exact⟨by rw[HV.out];rfl,HB1.out⟩
        ·have b8:(N2 != 8)=true:=by simpa using c8
         have HV:Hid (R=true):=by show _=_;rw[HRF.out,hX,decide_eq_true c8];rfl
         clear HXD HRF hX c8 c0 c1
         go_wp2_with(go_at_call 34;refine(HNU.out _).mono ?_;rintro e w2 ⟨he2,hw2⟩;obtain rfl:=hw2.symm;obtain rfl:=he2)
         go_ret;exact⟨by rw[HV.out];rfl,HB1.out⟩
       ·have b1:(e1==120)=false:=by simpa using c1
        by_cases c2:e1=88
        ·have b2:(e1==88)=true:=by simpa using c2
         have hX:isX (bn D)=true:=by rw[HXD.out];exact decide_eq_true ⟨h2,c0,.inr c2⟩
         by_cases c8:N2=8
         ·have b8:(N2 != 8)=false:=by simp[c8]
          have HV:Hid (R=false):=by show _=_;rw[HRF.out,hX,decide_eq_false (fun h=>h c8)];rfl
          clear HXD HRF hX c8 c0 c1 c2
          go_wp2_with(go_at_call 34;refine(HNU.out _).mono ?_;rintro e w2 ⟨he2,hw2⟩;obtain rfl:=hw2.symm;obtain rfl:=he2)
          go_ret;exact⟨by rw[HV.out];rfl,HB1.out⟩
         ·have b8:(N2 != 8)=true:=by simpa using c8
          have HV:Hid (R=true):=by show _=_;rw[HRF.out,hX,decide_eq_true c8];rfl
          clear HXD HRF hX c8 c0 c1 c2
          go_wp2_with(go_at_call 34;refine(HNU.out _).mono ?_;rintro e w2 ⟨he2,hw2⟩;obtain rfl:=hw2.symm;obtain rfl:=he2)
          go_ret;exact⟨by rw[HV.out];rfl,HB1.out⟩
        ·have b2:(e1==88)=false:=by simpa using c2
         have HV:Hid (R=false):=by show _=_;rw[HRF.out,HXD.out,decide_eq_false (fun h=>h.2.2.elim c1 c2)];rfl
         clear HXD HRF c0 c1 c2
         go_wp2_with(go_at_call 34;refine(HNU.out _).mono ?_;rintro e w2 ⟨he2,hw2⟩;obtain rfl:=hw2.symm;obtain rfl:=he2)
         go_ret;exact⟨by rw[HV.out];rfl,HB1.out⟩
      ·have b0:(e0==48)=false:=by simpa using c0
       have HV:Hid (R=false):=by show _=_;rw[HRF.out,HXD.out,decide_eq_false (fun h=>c0 h.2.1)];rfl
       clear HXD HRF c0
       go_wp2_with(go_at_call 34;refine(HNU.out _).mono ?_;rintro e w2 ⟨he2,hw2⟩;obtain rfl:=hw2.symm;obtain rfl:=he2)
       go_ret;exact⟨by rw[HV.out];rfl,HB1.out⟩
     ·have h2z:¬ (2:Int)≤(D.size:Int):=by omega
      have HV:Hid (R=false):=by
       show _=_
       have hX:isX (bn D)=false:=by unfold isX;exact decide_eq_false (fun h=>h2 (by have:=h.1;rw[aa]at this;exact this))
       rw[HRF.out,hX];rfl
      clear HRF HGT
      go_wp2_with(go_at_call 34;refine(HNU.out _).mono ?_;rintro e w2 ⟨he2,hw2⟩;obtain rfl:=hw2.symm;obtain rfl:=he2)
      go_ret;exact⟨by rw[HV.out];rfl,HB1.out⟩
end Go.Proofs.YtkekkbciiohbkaaGreatDoor.F
namespace Go.Proofs.YtkekkbciiohbkaaGreatDoor.H
open Go.RowKit
theorem fE{a:Nat}(ha:a<4294967296):∀ v∈F.jh (F.cut a 4),v.2<2 ^ 64:=by
 intro v hv
 unfold F.jh F.cut at hv
 simp at hv
 rcases hv with rfl | rfl | rfl | rfl <;> simp only <;> omega
theorem jV{a:Nat}(ha:a<4294967296):F.prs (F.txt a)=(a,0)∧F.ends (F.txt a)=true∧F.txt a≠[]:=by
 have hv:=fE ha;have hne:F.jh (F.cut a 4)≠[]:=by unfold F.jh F.cut;simp
 have hz:F.jh (F.cut a 4)=[2,2,2,2].zip (F.cut a 4):=rfl;have hc:=F.pQ ha (n:=4) (by decide) (by decide) (ks:=[2,2,2,2]) rfl;refine⟨?_,F.fx hne hv,?_⟩
 ·have h:=(F.l6 hne (show 4≤4 from Nat.le_refl _) hv).1
  unfold F.txt;rw[h];have hl:(F.jh (F.cut a 4)).length=4:=rfl;rw[hl,hz,hc.1,hc.2];rfl
 ·intro e
  have h:=F.fx hne hv;unfold F.txt at e
  rw[e]at h;exact absurd h (by decide)
end Go.Proofs.YtkekkbciiohbkaaGreatDoor.H
