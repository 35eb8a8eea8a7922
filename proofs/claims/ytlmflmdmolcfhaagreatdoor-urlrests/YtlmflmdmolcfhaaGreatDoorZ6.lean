/- Contracts and plain facts. -/
import Derived.Test.YtlmflmdmolcfhaaGreatDoorZ5
import Derived.Laws.ResultCell
import Derived.Laws.EntriesVeiled
import Derived.Lib.Join
set_option maxRecDepth 100000
set_option maxHeartbeats 16000000
set_option linter.unusedVariables false
set_option linter.unnecessarySimpa false
open Nat (le_refl le_trans zero_le lt_of_lt_of_le sub_self)
open List (length_cons getElem?_eq_getElem map_map length_nil flatMap_cons length_drop length_take nil_append map_cons mem_map_of_mem getElem?_take all_cons all_eq_true getElem_mem size_toArray push_toArray append_toArray cons_append length_map all_append)
open Go.World (size_alloc putObj_heap_other)
open Array (replicate_succ replicate_zero)
namespace Go.Proofs.YtlmflmdmolcfhaaGreatDoor
open Tryz Go.RowKit
namespace P
open Go.RowKit U
structure Rdr(base:Nat)(w:World)(Bs Bl:Nat)(s:ByteArray):Prop where
 s:Boxed w Bs 9 (.string s)
 l:Boxed w Bl 31 (.func (.func 370) #[] #[.pointer (some ⟨Bs,0,none⟩)])
 hs:base<=Bs
def og(Bs Bl:Nat):Value:=.func (.func 371) #[] #[.pointer (some ⟨Bl,0,none⟩),.pointer (some ⟨Bs,0,none⟩)]
def uG(Bs:Nat):Value:=.func (.func 370) #[] #[.pointer (some ⟨Bs,0,none⟩)]
theorem Rdr.below{base b':Nat}{w w':World}{Bs Bl:Nat}{s:ByteArray}(h:Rdr base w Bs Bl s)(hb:Below b' w w')(hB:w.heap.size<=b'):Rdr base w' Bs Bl s :=
 ⟨(hb.block Bs (lt_of_lt_of_le h.s.lt hB)).trans h.s,(hb.block Bl (lt_of_lt_of_le h.l.lt hB)).trans h.l,h.hs⟩
theorem boxed_ne'{W:World}{B C:Nat}{t u:TypeId}{x y:Value}(h:Boxed W B t x)(k:Boxed W C u y)(hne:t≠u):B≠C:=by intro e;unfold Boxed at h k;rw[e,k]at h;simp at h;exact hne h.2.symm
theorem dG(base:Nat)(w:World)(Bs Bl:Nat)(s:ByteArray)(h:Rdr base w Bs Bl s):
  Calls prog 370 #[.pointer (some ⟨Bs,0,none⟩)] w fun e w'=>e=.returned (.bool (decide (0<s.size)))/\w'=w:=by
 have c:=h.s.cell;clear h;go_enter func370,ntmps370;go_wp2;go_ret;exact⟨rfl,rfl⟩
theorem Bm(base:Nat)(w:World)(Bs Bl:Nat)(s:ByteArray)(h:Rdr base w Bs Bl s)(h0:s.size=0):
  Calls prog 371 #[.pointer (some ⟨Bl,0,none⟩),.pointer (some ⟨Bs,0,none⟩)] w fun e w'=>e=.returned (.tuple #[.int .i64 0,.bool false])/\w'=w:=by
 have c:=h.s.cell;have d:=h.l.cell;have hd:decide (0<s.size)=false:=by rw[h0];rfl
 have H:=hid' h;clear h;go_enter func371,ntmps371;go_wp2_with(go_at_call 370;refine(dG base _ Bs Bl s H.out).mono ?_;rw[hd];rintro e w' ⟨rfl,rfl⟩);go_ret2;exact⟨rfl,rfl⟩
def told(c:Int):Value:=match dg c with | some d=>.tuple #[.int .i64 d,.bool true] | none=>.tuple #[.int .i64 0,.bool false]
theorem Bk(base:Nat)(w:World)(Bs Bl:Nat)(s:ByteArray)(hsz:s.size<=1024)(h:Rdr base w Bs Bl s)(h0:0<s.size):
  Calls prog 371 #[.pointer (some ⟨Bl,0,none⟩),.pointer (some ⟨Bs,0,none⟩)] w fun e w'=>e=.returned (told (s[0].toNat:Int))/\Rdr base w' Bs Bl (s.extract 1 s.size)/\w.grownBy w' (some Bs):=by
 have c:=h.s.cell;have f:=h.s.frozen;have d:=h.l.cell;have hd:decide (0<s.size)=true:=by simpa using h0
 have hne:=boxed_ne' h.l h.s (by decide);have R:Rdr base (w.setCell ⟨Bs,0,none⟩ (.string (s.extract 1 s.size))) Bs Bl (s.extract 1 s.size):=⟨h.s.set _,h.l.kept (grownBy_setCell' w Bs _) (by simpa using hne),h.hs⟩;have BB:w.grownBy (w.setCell ⟨Bs,0,none⟩ (.string (s.extract 1 s.size))) (some Bs):=grownBy_setCell' w Bs _;have H:=hid' h;have hx0:(0:Int)<=(s[0].toNat:Int):=by omega
 have hx1:(s[0].toNat:Int)<=255:=by have:=s[0].toNat_lt;omega
 clear h;go_enter func371,ntmps371;unfold told;cases hg:dg (s[0].toNat:Int) with
 | none =>
  have HG:=hid' hg;clear hg
  go_wp2_with(first
    | (go_at_call 370;refine(dG base _ Bs Bl s H.out).mono ?_;rw[hd];rintro e w' ⟨rfl,rfl⟩)
    | (go_at_call 372;refine(yh _ hx0 hx1 HG.out _).mono ?_;rintro e w' ⟨rfl,rfl⟩))
  go_ret2;exact⟨rfl,R,BB⟩
 | some dd =>
  have HG:=hid' hg;clear hg
  go_wp2_with(first
    | (go_at_call 370;refine(dG base _ Bs Bl s H.out).mono ?_;rw[hd];rintro e w' ⟨rfl,rfl⟩)
    | (go_at_call 372;refine(yg _ dd HG.out _).mono ?_;rintro e w' ⟨rfl,rfl⟩))
  go_ret2;exact⟨rfl,R,BB⟩
theorem jI(s:ByteArray)(w:World):
  Calls prog 349 #[.string s] w fun e w'=>∃ Bs Bl,e=.returned (.tuple #[uG Bs,og Bs Bl])/\Rdr w.heap.size w' Bs Bl s/\Below w.heap.size w w':=by
 have b1:=Boxed.new w 9 (.string s);have b2:=Boxed.new (w.alloc (.cells #[.string s] 9)) 31 .nilFunc;have e1:(w.alloc (.cells #[.string s] 9)).heap.size=w.heap.size+1:=by simp
 rw[e1]at b2;have c2:=b2.cell;have f2:=b2.frozen;go_enter func349,ntmps349;have b3:=Boxed.new (w.alloc (.cells #[.string s] 9)) 31 (.func (.func 370) #[] #[.pointer (some ⟨w.heap.size,0,none⟩)]);rw[e1]at b3;have H3:=hid' b3;clear b3 e1 b1 b2;go_wp2;have c3:=H3.out.cell;refine bodyPost_ret (v:=.tuple #[uG w.heap.size,og w.heap.size (w.heap.size+1)]) ?_ rfl ⟨_,_,rfl,⟨(Boxed.new w 9 (.string s)).alloc _,H3.out,le_refl _⟩,((Below.refl _ w).alloc (le_refl _) _).alloc (by simp) _⟩;rw[results_cell_tmp (p:=2) (u:=3) (ty:=31) rfl];have hl:(loadVar 31 ⟨w.heap.size+1,0,none⟩).run prog ((w.alloc (.cells #[.string s] 9)).alloc (.cells #[.func (.func 370) #[] #[.pointer (some ⟨w.heap.size,0,none⟩)]] 31))=.ok (uG w.heap.size) ((w.alloc (.cells #[.string s] 9)).alloc (.cells #[.func (.func 370) #[] #[.pointer (some ⟨w.heap.size,0,none⟩)]] 31)):=by unfold uG;go_simp
 simp[asAddr,Result.andThen,hl,og]
theorem iJ{a b c:World}{row:Option Nat}(h:a.grownBy b row)(k:b.grownBy c row):a.grownBy c row :=
 ⟨k.os.trans h.os,k.tape.trans h.tape,k.output.trans h.output,le_trans h.size k.size,fun i hi hr=>(k.block i (lt_of_lt_of_le hi h.size) hr).trans (h.block i hi hr)⟩
def rF(w:World)(B:Nat):Nat:=match w.cell? ⟨B,0,none⟩ with | some (.string s)=>s.size | _=>0
theorem iV{w:World}{B:Nat}{s:ByteArray}(h:Boxed w B 9 (.string s)):rF w B=s.size:=by unfold rF;rw[h.cell]
theorem OM(b k i w:Nat):rn b k i w []=none:=rfl
theorem OP(b k i w:Nat)(c:Int)(cs:List Int)(h:dg c=none):rn b k i w (c::cs)=none:=by rw[rn,h]
theorem OO(b k i w d:Nat)(c:Int)(cs:List Int)(h:dg c=some d)(h1:2147483647<i+d * w):rn b k i w (c::cs)=none:=by rw[rn,h];simp[h1]
theorem ON(b k i w d:Nat)(c:Int)(cs:List Int)(h:dg c=some d)(h1:¬ 2147483647<i+d * w)(h2:d<thr k b):rn b k i w (c::cs)=some (i+d * w,cs):=by rw[rn,h];simp[h1,h2]
theorem Kn(b k i w d:Nat)(c:Int)(cs:List Int)(h:dg c=some d)(h1:¬ 2147483647<i+d * w)(h2:¬ d<thr k b)(h3:2147483647<w * (36 - thr k b)):rn b k i w (c::cs)=none:=by rw[rn,h];simp[h1,h2,h3]
theorem RC(b k i w d:Nat)(c:Int)(cs:List Int)(h:dg c=some d)(h1:¬ 2147483647<i+d * w)(h2:¬ d<thr k b)(h3:¬ 2147483647<w * (36 - thr k b)):rn b k i w (c::cs)=rn b (k+36) (i+d * w) (w * (36 - thr k b)) cs:=by rw[rn,h];simp only;rw[if_neg h1,if_neg h2,if_neg h3]
theorem Nf(s:ByteArray)(h:0<s.size):bn s=(s[0].toNat:Int)::bn (s.extract 1 s.size):=by rw[ar s 1 s.size (le_refl _),List.take_of_length_le (by rw[length_drop,aa];exact le_refl _)];exact gZ s h
def jW(o:Option (Nat×List Int))(e:Ending)(base:Nat)(w':World)(Bs Bl:Nat):Prop :=
 match o with
 | none=>e=.returned (.tuple #[.int .i64 0,.bool false])/\∃ s',Rdr base w' Bs Bl s'
 | some (j,rest)=>e=.returned (.tuple #[.int .i64 j,.bool true])/\∃ s',Rdr base w' Bs Bl s'/\bn s'=rest/\s'.size<=1024
theorem dF(base:Nat)(w:World)(Bs Bl i b:Nat)(s:ByteArray)(hsz:s.size<=1024)(hi:i<=2147483647)(hb:b<=1000000000000)(h:Rdr base w Bs Bl s):
  Calls prog 350 #[.int .i64 i,.int .i64 b,og Bs Bl] w fun e w'=>jW (rn b 36 i 1 (bn s)) e base w' Bs Bl/\w.grownBy w' (some Bs):=by
 have H:=hid' h;clear h;unfold og;go_enter func350,ntmps350;go_wp2_with fail
 go_loopw [0,8,9] (fun vi vw vk wr=>∃(I W K:Nat) (t:ByteArray),vi=.int .i64 I/\vw=.int .i64 W/\vk=.int .i64 K/\I<=2147483647/\W<=2147483647/\K+36 * t.size<=36+36 * s.size/\t.size<=s.size/\Hid (rn b 36 i 1 (bn s)=rn b K I W (bn t))/\Hid (Rdr base wr Bs Bl t)/\w.grownBy wr (some Bs))
  (fun _ _ _ wr=>rF wr Bs)
 case atStart=>exact⟨i,1,36,s,rfl,rfl,rfl,hi,by omega,by omega,le_refl _,rfl,H,⟨rfl,rfl,rfl,le_refl _,fun _ _ _=>rfl⟩⟩
 case round =>
  obtain⟨I,W,K,t,rfl,rfl,rfl,h1,h2,h3,h3',h4,h5,hB⟩:=hrel;by_cases ht:t.size=0
  ·have HN:Hid (rn b 36 i 1 (bn s)=none):=by show _=_;rw[h4.out,show bn t=[] from List.eq_nil_of_length_eq_zero (by rw[aa];exact ht),OM]
   go_wp2_with(go_at_call 371;refine(Bm base _ Bs Bl t h5.out ht).mono ?_;rintro e w' ⟨rfl,rfl⟩);go_ret2;rw[HN.out];exact⟨⟨rfl,t,h5.out⟩,hB⟩
  ·have ht0:0<t.size:=by omega
   have HB:=hid' (Nf t ht0);have hes:(t.extract 1 t.size).size=t.size - 1:=by rw[ByteArray.size_extract];omega
   have HN:=hid' (Bk base wr Bs Bl t (by omega) h5.out ht0);have HSZ:=hid' (iV h5.out.s);obtain⟨c,hc⟩:∃ c,c=(t[0].toNat:Int):=⟨_,rfl⟩;rw[<-hc]at HB HN;clear hc;obtain⟨t',ht'⟩:∃ t',t'=t.extract 1 t.size:=⟨_,rfl⟩;rw[<-ht']at HB HN hes;clear ht';have HR:Hid (rn b 36 i 1 (bn s)=rn b K I W (c::bn t')):=by show _=_;rw[h4.out,HB.out]
   clear h4;cases hg:dg c with
   | none =>
    have HG:=hid' hg;have HT:Hid (told c=.tuple #[.int .i64 0,.bool false]):=by show _=_;rw[told,hg]
    clear hg;go_wp2_with fail;refine HN.out.mono ?_;rw[HT.out];rintro e w' ⟨rfl,hr,hbl⟩;go_wp2;go_ret2;rw[HR.out,OP _ _ _ _ _ _ HG.out];exact⟨⟨rfl,_,hr⟩,iJ hB hbl⟩
   | some d =>
    have HG:=hid' hg;have HT:Hid (told c=.tuple #[.int .i64 d,.bool true]):=by show _=_;rw[told,hg]
    have hd:=(Eg c d hg).2;clear hg;have t1:=fH K b;have t2:=jD K b;obtain⟨u,hu⟩:=Ex' (thr K b);have HU:=hid' hu;rw[hu]at t1 t2;clear hu;have p1:d * W<=35 * 2147483647:=Nat.mul_le_mul (by omega) h2;have p2:W * (36 - u)<=2147483647 * 35:=Nat.mul_le_mul h2 (by omega);obtain⟨X,hX⟩:=Ex' (d * W);obtain⟨Y,hY⟩:=Ex' (W * (36 - u));have eX:(d:Int) * (W:Int)=(X:Int):=by rw[<-hX];push_cast;rfl
    have eY:(W:Int) * (36 - (u:Int))=(Y:Int):=by rw[<-hY];push_cast [Int.ofNat_sub (show u<=36 by omega)];rfl
    have HX:=hid' hX;have HY:=hid' hY;rw[hX]at p1;rw[hY]at p2;clear hX hY;have fin:∀ w',Hid (Rdr base w' Bs Bl t')->True->True:=fun _ _ _=>trivial;by_cases q1:2147483647<I+X
    ·go_wp2_with fail;refine HN.out.mono ?_;rw[HT.out];rintro e w' ⟨rfl,hr,hbl⟩;go_wp2;go_ret2;rw[HR.out,OO _ _ _ _ d _ _ HG.out (by rw[HX.out];exact q1)];exact⟨⟨rfl,_,hr⟩,iJ hB hbl⟩
    ·by_cases q2:d<u
     ·go_wp2_with fail;refine HN.out.mono ?_;rw[HT.out];rintro e w' ⟨rfl,hr,hbl⟩;go_wp2_with(go_at_call 357;refine(ka K b (by omega) (by omega) _).mono ?_;rw[HU.out];rintro e w1 ⟨rfl,rfl⟩);go_ret2;rw[HR.out,ON _ _ _ _ d _ _ HG.out (by rw[HX.out];exact q1) (by rw[HU.out];exact q2),HX.out];exact⟨⟨rfl,_,hr,rfl,by omega⟩,iJ hB hbl⟩
     ·by_cases q3:2147483647<Y
      ·go_wp2_with fail;refine HN.out.mono ?_;rw[HT.out];rintro e w' ⟨rfl,hr,hbl⟩;go_wp2_with(go_at_call 357;refine(ka K b (by omega) (by omega) _).mono ?_;rw[HU.out];rintro e w1 ⟨rfl,rfl⟩);go_ret2;rw[HR.out,Kn _ _ _ _ d _ _ HG.out (by rw[HX.out];exact q1) (by rw[HU.out];exact q2) (by rw[HU.out,HY.out];exact q3)];exact⟨⟨rfl,_,hr⟩,iJ hB hbl⟩
      ·go_wp2_with fail;refine HN.out.mono ?_;rw[HT.out];rintro e w' ⟨rfl,hr,hbl⟩;have HRr:=hid' hr;clear hr;go_wp2_with(go_at_call 357;refine(ka K b (by omega) (by omega) _).mono ?_;rw[HU.out];rintro e w1 ⟨rfl,rfl⟩)
       go_roundw
       case rel =>
        refine⟨I+X,Y,K+36,t',by first | rfl | go_num,by first | rfl | go_num,by go_num,by omega,by omega,by omega,by omega,?_,HRr,iJ hB hbl⟩;show _=_;rw[HR.out,RC _ _ _ _ d _ _ HG.out (by rw[HX.out];exact q1) (by rw[HU.out];exact q2) (by rw[HU.out,HY.out];exact q3),HX.out,HU.out,HY.out]
       case measure =>
        rw[iV HRr.out.s,HSZ.out];omega
theorem kx{w:World}{base g n cap:Nat}{f:Nat->Value}{xs:List Value}(h:w.rowIs g 21 cap f)(hn:n<=cap)(hc:cap<=maxLen)(hb:base<=g)(hl:xs.length=n)(hx:∀ j,j<n->xs[j]? = some (f j)):
  w.ownsRow base 21 1 (.slice (some ⟨g,0,none⟩) n cap) n xs:=by
 obtain⟨cur,h1,h2,h3⟩:=h;refine⟨by omega,.inr ⟨g,cap,cur,rfl,hb,h1,hn,hc,by omega,?_⟩⟩;rw[Nat.mul_one];apply List.ext_getElem?;intro j;rw[getElem?_take];by_cases hj:j<n
 ·rw[if_pos hj,Array.getElem?_toList,h3 j (by omega),hx j hj]
 ·rw[if_neg hj,List.getElem?_eq_none (by omega)]
theorem gn(g:Nat):∀(vs:List Value) (o:Nat) (w:World),w.grownBy (w.setCells g o vs) (some g)
 | [],_,w=>⟨rfl,rfl,rfl,le_refl _,fun _ _ _=>rfl⟩
 | v::r,o,w=>by have h:w.grownBy (w.setCell ⟨g,o,none⟩ v) (some g):=⟨rfl,rfl,rfl,(KeepsWalks.setCell w _ v).size,fun k _ hk=>Below.heap_setCell _ _ _ k (fun e=>hk (by rw[e]))⟩;have k:=gn g r (o+1) (w.setCell ⟨g,o,none⟩ v);exact⟨k.os.trans h.os,k.tape.trans h.tape,k.output.trans h.output,le_trans h.size k.size,fun i hi hr=>(k.block i (lt_of_lt_of_le hi h.size) hr).trans (h.block i hi hr)⟩
theorem oH{a b c:World}{row:Option Nat}(h:a.grownBy b row)(k:b.grownBy c row):a.grownBy c row :=
 ⟨k.os.trans h.os,k.tape.trans h.tape,k.output.trans h.output,le_trans h.size k.size,fun i hi hr=>(k.block i (lt_of_lt_of_le hi h.size) hr).trans (h.block i hi hr)⟩
theorem zg(cs:List Value)(x:Value)(i n j:Nat)(hl:cs.length=n)(hi:i<=n)(hj:j<n+1):
  (cs.take i++x::cs.drop i)[j]? = some (if j<i then cs[j]?.getD default else if j=i then x else cs[j - 1]?.getD default):=by
 have ht:(cs.take i).length=i:=by rw[length_take];omega
 by_cases h1:j<i
 ·rw[if_pos h1,List.getElem?_append_left (by omega),getElem?_take,if_pos h1,getElem?_eq_getElem (by omega)];rfl
 ·rw[if_neg h1,List.getElem?_append_right (by omega),ht];by_cases h2:j=i
  ·rw[if_pos h2,h2,sub_self];rfl
  ·rw[if_neg h2,show j - i=(j - i - 1)+1 by omega,List.getElem?_cons_succ,List.getElem?_drop,show i+(j - i - 1)=j - 1 by omega,getElem?_eq_getElem (by omega)];rfl
theorem xO(base:Nat)(a:Option Addr)(n c vb:Nat)(zs:List Int)(x:Int)(w:World)(hl:zs.length=n)(hn:n<=1000000)(ag:w.ownsRow base 21 1 (.slice a n c) n (zs.map (Value.int .i32)))(hb:base<=w.heap.size)(hx:Boxed w vb 21 (.int .i32 x)):
  Calls prog 353 #[.slice a n c,.int .i64 n,.slice (some ⟨vb,0,none⟩) 1 1] w fun e w'=>∃ v',e=.returned v'/\w'.ownsRow base 21 1 v' (n+1) ((zs++[x]).map (Value.int .i32))/\w.grownBy w' (Value.slice a n c).ownBlock:=by
 have hs:mL w (.slice (some ⟨vb,0,none⟩) 1 1) [x]:=.inr ⟨⟨vb,0,none⟩,1,rfl,fun j hj=>by
   obtain rfl:j=0:=by simp at hj;exact hj
   rw[Addr.add_lit];exact hx.cell⟩
 rcases ag.2 with⟨e,h0⟩ | ⟨g,cap,cur,e,hbg,hgb,hnc,hcm,_⟩
 ·cases e;have H:=hid' ag;go_enter func353,ntmps353;go_wp2_with(at_builtin;refine bI rfl _ _ rfl base _ 0 zs rfl H.out _ [x] rfl hs (by simp only[length_cons,length_nil];omega) hb ?_;intro v' w1 r1 g1);go_ret;exact⟨v',rfl,by simpa using r1,g1⟩
 ·cases e;unfold maxLen at hcm;have H:=hid' ag;clear ag hgb;go_enter func353,ntmps353;go_wp2_with(at_builtin;refine bI rfl _ _ rfl base _ n zs rfl H.out _ [x] rfl hs (by simp only[length_cons,length_nil];omega) hb ?_;intro v' w1 r1 g1);all_goals (go_ret;exact⟨_,rfl,by simpa using(by assumption:World.ownsRow _ _ _ _ _ _ ((zs++[x]).map (Value.int .i32))),by assumption⟩)
theorem xP(base:Nat)(v:Value)(zs:List Int)(i vb:Nat)(x:Int)(w:World)(hi:i<=zs.length)(hn:zs.length<=1000000)(ag:w.ownsRow base 21 1 v zs.length (zs.map (Value.int .i32)))(hb:base<=w.heap.size)
  (hx:Boxed w vb 21 (.int .i32 x)) (hvb:some vb≠v.ownBlock) :
  Calls prog 353 #[v,.int .i64 i,.slice (some ⟨vb,0,none⟩) 1 1] w fun e w'=>∃ v',e=.returned v'/\w'.ownsRow base 21 1 v' (zs.length+1) ((zs.take i++x::zs.drop i).map (Value.int .i32))/\w.grownBy w' v.ownBlock:=by
 by_cases hin:i=zs.length
 ·subst hin
  obtain⟨a,c,rfl⟩:∃ a c,v=.slice a zs.length c:=by
   rcases ag.2 with⟨rfl,h0⟩ | ⟨g,cap,cur,rfl,_⟩
   ·exact⟨none,0,by rw[h0]⟩
   ·exact⟨_,cap,rfl⟩
  rw[List.take_length,List.drop_length];exact xO base a _ c vb zs x w rfl hn ag hb hx
 ·have hlt:i<zs.length:=by omega
  have hrow0:=ag;rcases ag.2 with⟨rfl,h0⟩ | ⟨g,cap,cur,rfl,hbg,hgb,hnc,hcm,hcs,hct⟩
  ·omega
  ·rw[Nat.mul_one]at hcs hct;have hcur:∀ j,j<zs.length->cur[j]? = some (.int .i32 (zs[j]?.getD 0)):=fun j hj=>by have:=congrArg (fun l=>l[j]?) hct;simp only[getElem?_take,if_pos hj,List.getElem?_map,Array.getElem?_toList]at this;rw[this,getElem?_eq_getElem hj];rfl
   have R:w.rowIs g 21 cap (fun j=>cur[j]?.getD default):=⟨cur,hgb,hcs,fun j hj=>by show _=some (cur[j]?.getD default);rw[Array.getElem?_eq_getElem (by omega)];rfl⟩;have hF:∀ j v,(zs.map (Value.int .i32))[j]? = some v->cur[j]?.getD default=v:=fun j v hj=>by have hjl:=(List.getElem?_eq_some_iff.1 hj).1;rw[length_map]at hjl;rw[hcur j hjl];rw[List.getElem?_map,getElem?_eq_getElem hjl]at hj;rw[getElem?_eq_getElem hjl];simpa using hj
   have eb:∀ v∈zs.map (Value.int .i32),v.oneCell'=true:=fun v hv=>by obtain⟨z,_,rfl⟩:=List.mem_map.1 hv;rfl
   have hml:(zs.map (Value.int .i32)).length=zs.length:=length_map ..;have hmap:(zs.take i++x::zs.drop i).map (Value.int .i32)=(zs.map (Value.int .i32)).take i++.int .i32 x::(zs.map (Value.int .i32)).drop i:=by simp[List.map_take,List.map_drop]
   have hgv:vb≠g:=fun e=>hvb (by rw[e];rfl);unfold maxLen at hcm;by_cases hroom:zs.length+1<=cap
   ·refine(uR g zs.length cap i vb (zs.map (Value.int .i32)) (.int .i32 x) _ w hlt hroom (by omega) hgv hml R hF hx eb rfl).mono ?_;rintro e w' ⟨rfl,rfl⟩;refine⟨_,rfl,?_,?_⟩
    ·have R2:=rowIs_setCells [.int .i32 x] i _ _ (rowIs_setCells ((zs.map (Value.int .i32)).drop i) (i+1) w.drew _ R.drew);rw[hmap];refine kx R2 hroom (by unfold maxLen;omega) hbg (by simp;omega) (fun j hj=>?_);rw[zg _ _ i zs.length j hml (by omega) hj];congr 1;by_cases h1:j<i
     ·rw[if_pos h1,if_neg (by omega),if_neg (by omega)];exact(hF j _ (by rw[getElem?_eq_getElem (by omega)];rfl)).symm
     ·rw[if_neg h1];by_cases h2:j=i
      ·rw[if_pos h2,if_pos (by simp;omega),h2,sub_self];rfl
      ·rw[if_neg h2,if_neg (by simp;omega),if_pos (by simp;omega),List.getElem?_drop,show i+(j - (i+1))=j - 1 by omega]
    ·exact oH (oH (b:=w.drew) ⟨rfl,rfl,rfl,le_refl _,fun _ _ _=>rfl⟩ (gn g _ _ w.drew)) (gn g _ _ _)
   ·refine(uS g zs.length cap i vb (zs.map (Value.int .i32)) (.int .i32 x) _ w hlt hnc (by omega) hn hml R hF hx eb rfl).mono ?_;rintro e w' ⟨G,ROW,hG,hG63,hRs,hRt,rfl,rfl⟩;refine⟨_,rfl,?_,?_⟩
    ·have R1:(w.alloc (.cells ROW 21)).drew.rowIs w.heap.size 21 G (fun j=>ROW[j]?.getD default):=by have:=World.rowIs_alloc w ROW 21 (fun j=>ROW[j]?.getD default) (fun j hj=>by rw[Array.getElem?_eq_getElem hj];rfl);rw[hRs]at this;exact this.drew
     have R2:=rowIs_setCells ((zs.map (Value.int .i32)).drop i) (i+1) _ _ (rowIs_setCells [.int .i32 x] i _ _ R1).drew;rw[hmap];refine kx R2 hG (by unfold maxLen;omega) (by omega) (by simp;omega) (fun j hj=>?_);rw[zg _ _ i zs.length j hml (by omega) hj];congr 1;by_cases h1:j<i
     ·rw[if_pos h1,if_neg (by omega),if_neg (by omega)];have:=congrArg (fun l=>l[j]?) hRt;simp only[getElem?_take,if_pos h1,Array.getElem?_toList]at this;rw[this]
     ·rw[if_neg h1];by_cases h2:j=i
      ·rw[if_pos h2,if_neg (by omega),if_pos (by simp;omega),h2,sub_self];rfl
      ·rw[if_neg h2,if_pos (by simp;omega),List.getElem?_drop,show i+(j - (i+1))=j - 1 by omega]
    ·have g0:=World.grownBy_alloc w (.cells ROW 21) none;have g1:w.grownBy (w.alloc (.cells ROW 21)).drew none:=⟨g0.os,g0.tape,g0.output,g0.size,g0.block⟩;have s1:=gn w.heap.size [.int .i32 x] i (w.alloc (.cells ROW 21)).drew;have s2:=gn w.heap.size ((zs.map (Value.int .i32)).drop i) (i+1) ((w.alloc (.cells ROW 21)).drew.setCells w.heap.size i [.int .i32 x]).drew;refine⟨s2.os.trans (s1.os.trans g1.os),s2.tape.trans (s1.tape.trans g1.tape),s2.output.trans (s1.output.trans g1.output),le_trans g1.size (le_trans s1.size s2.size),fun k hk hr=>?_⟩;have hne:some k≠some w.heap.size:=by intro e;cases e;omega
     exact(s2.block k (lt_of_lt_of_le hk (le_trans g1.size s1.size)) hne).trans ((s1.block k (lt_of_lt_of_le hk g1.size) hne).trans (g1.block k hk (by simp)))
theorem Ej(n:Int)(h:1114111<n):ab n=false:=by unfold ab;simp;omega
theorem oz(n:Int)(h0:0<=n)(h1:n<=1099511627776)(w:World):
  Calls prog 352 #[.int .i64 n] w fun e W'=>e=.returned (.bool (ab n))/\Below w.heap.size w W':=by
 go_enter func352,ntmps352;by_cases hb:1114111<n
 ·have HS:=hid' (Ej n hb);go_wp2;go_ret;rw[HS.out];exact⟨rfl,Below.refl _ _⟩
 ·have hI:av (w.alloc (.cells #[.int .i32 n] 21)) (.slice (some ⟨w.heap.size,0,none⟩) 1 1) [n]:=by
   refine .inr ⟨by simp,_,_,_,rfl,fun j hj=>?_⟩;obtain rfl:j=0:=by simp at hj;exact hj
   exact(Boxed.new w 21 (.int .i32 n)).cell
  have HI:=hid' hI;clear hI;go_wp2_with(go_at_call 280;refine(gU _ [n] (by simp) _ HI.out).mono ?_;rintro e w1 ⟨⟨t,r,rfl,hr⟩,B1⟩);have B2:Below w.heap.size w w1:=((Below.refl _ w).alloc (le_refl _) (.cells #[.int .i32 n] 21)).trans (B1.mono (by simp));rcases hr with⟨q1,rfl,q3⟩ | ⟨q1,rfl,q3⟩
  ·have HQ:Hid (ab n=true):=by show _=_;simpa using q1
   clear q1 q3;go_wp2;go_ret;rw[HQ.out];exact⟨rfl,B2⟩
  ·have HQ:Hid (ab n=false):=by show _=_;simpa using q1
   clear q1 q3;go_wp2;go_ret;rw[HQ.out];exact⟨rfl,B2⟩
theorem step_eq(s:St)(j:Nat)(h:s.i<=j):s.step (j - s.i)=⟨s.n+((j / (s.pts.length+1):Nat):Int),j % (s.pts.length+1)+1,s.pts.take (j % (s.pts.length+1))++(s.n+((j / (s.pts.length+1):Nat):Int))::s.pts.drop (j % (s.pts.length+1))⟩:=by unfold St.step;rw[show s.i+(j - s.i)=j by omega]
def Sy(o:Option (List Int))(e:Ending)(base:Nat)(w':World):Prop :=
 match o with
 | none=>e=.returned (.tuple #[.slice none 0 0,.bool false])
 | some pts=>∃ v',e=.returned (.tuple #[v',.bool true])/\w'.ownsRow base 21 1 v' pts.length (pts.map (Value.int .i32))
structure Rs(base:Nat)(w wr:World)(Bs Bl:Nat)(o:Option (List Int))(v:Value)(n:Int)(i p b:Nat)(pts:List Int)(t:ByteArray):Prop where
 row:wr.ownsRow base 21 1 v p (pts.map (Value.int .i32))
 len:pts.length=p
 rdr:Rdr base wr Bs Bl t
 eq:o=RD ⟨n,i,pts⟩ b (bn t)
 be:Below base w wr
theorem bY{base n:Nat}{v:Value}{X:List Value}{W:World}(h:W.ownsRow base 21 1 v n X):∃ a cap,v=.slice a n cap:=by
 rcases h.2 with⟨rfl,h0⟩ | ⟨g,cap,cur,rfl,_⟩
 ·exact⟨none,0,by rw[h0]⟩
 ·exact⟨_,cap,rfl⟩
theorem oY{base Bs:Nat}{w wr w2:World}(hB:Below base w wr)(hg:wr.grownBy w2 (some Bs))(hs:base<=Bs)(hz:base<=wr.heap.size):Below base w w2 :=
 hB.grown hg hz (fun j ej=>by cases ej;exact hs)
theorem Rdr.kept{base base':Nat}{w w':World}{Bs Bl:Nat}{s:ByteArray}{v:Value}{n:Nat}{X:List Value}(h:Rdr base w Bs Bl s)(ag:w.ownsRow base' 21 1 v n X)(hg:w.grownBy w' v.ownBlock):Rdr base w' Bs Bl s :=
 ⟨h.s.kept hg (h.s.not_row (by decide) ag),h.l.kept hg (h.l.not_row (by decide) ag),h.hs⟩
theorem lu{w w':World}{base:Nat}(h:Below base w w')(hb:base<=w.heap.size):base<=w'.heap.size:=le_trans hb h.size
theorem Et(base:Nat)(a0:Option Addr)(c0 p0:Nat)(zs:List Int)(s:ByteArray)(w:World)(hl:zs.length=p0)(hp:p0<=1024)(hs:s.size<=1024)(ag:w.ownsRow base 21 1 (.slice a0 p0 c0) p0 (zs.map (Value.int .i32)))(hb:base<=w.heap.size):
  Calls prog 313 #[.slice a0 p0 c0,.string s] w fun e W'=>Sy (RD (run zs []) 72 (bn s)) e base W'/\Below base w W':=by
 have HR:=hid' ag;have HL:=hid' hl;obtain⟨o,ho⟩:=Ex' (RD (run zs []) 72 (bn s));have HO0:=hid' ho;rw[ho];clear ag hl ho;go_enter func313,ntmps313;go_wp2_with fail;refine(jI s w).mono ?_;rintro e w1 ⟨Bs,Bl,rfl,R1,B1⟩
 have HR1:Hid (Rs base w w1 Bs Bl o (.slice a0 p0 c0) 128 0 p0 72 zs s) :=
  ⟨an HR.out B1 (le_refl _),HL.out,⟨R1.s,R1.l,le_trans hb R1.hs⟩,HO0.out.symm,B1.mono hb⟩
 clear R1 B1;unfold uG og;go_wp2_with fail
 go_loopw [0,5,8,9,10] (fun v0 v5 v8 v9 v10 wr=>∃(a:Option Addr) (c:Nat) (ok:Bool) (n:Int) (i p b:Nat) (pts:List Int) (t:ByteArray),v0=.slice a p c/\v5=.bool ok/\v8=.int .i64 n/\v9=.int .i64 i/\v10=.int .i64 b /\
     128<=n/\n<=1114111/\i<=p/\t.size<=s.size/\p+t.size<=p0+s.size/\b<=100000000000/\Hid (Rs base w wr Bs Bl o (.slice a p c) n i p b pts t))
  (fun _ _ _ _ _ wr=>rF wr Bs)
 case atStart=>exact⟨a0,c0,false,128,0,p0,72,zs,s,rfl,rfl,rfl,rfl,rfl,by omega,by omega,zero_le _,le_refl _,le_refl _,by omega,HR1⟩
 case round =>
  obtain⟨a,c,ok,n,i,p,b,pts,t,rfl,rfl,rfl,rfl,rfl,h1,h2,h3,h3',h4,h5,H⟩:=hrel;by_cases ht:t.size=0
  ·have hd:decide (0<t.size)=false:=by rw[ht];rfl
   have HO:Hid (o=some pts):=by show _=_;rw[H.out.eq,show bn t=[] from List.eq_nil_of_length_eq_zero (by rw[aa];exact ht)];rfl
   go_wp2_with(go_at_call 370;refine(dG base _ Bs Bl t H.out.rdr).mono ?_;rw[hd];rintro e w' ⟨rfl,rfl⟩);go_ret2;rw[HO.out];exact⟨⟨_,rfl,by rw[H.out.len];exact H.out.row⟩,H.out.be⟩
  ·have ht0:0<t.size:=by omega
   have hd:decide (0<t.size)=true:=by simpa using ht0
   have HN:=hid' (dF base wr Bs Bl i b t (by omega) (by omega) (by omega) H.out.rdr);have HSZ:=hid' (iV H.out.rdr.s);have HNE:Hid (bn t≠[]):=by show _≠_;intro e;have:=aa t;rw[e]at this;simp at this;omega
   unfold og at HN;cases hr:rn b 36 i 1 (bn t) with
   | none =>
    have HRn:=hid' hr;rw[hr]at HN;clear hr;have HO:Hid (o=none):=by show _=_;rw[H.out.eq,Ai _ _ _ HNE.out HRn.out]
    go_wp2_with(first
      | (go_at_call 370;refine(dG base _ Bs Bl t H.out.rdr).mono ?_;rw[hd];rintro e w' ⟨rfl,hw'⟩;obtain rfl:=hw'.symm)
      | (go_at_call 350;refine HN.out.mono ?_;rintro e w2 ⟨⟨rfl,-⟩,B2⟩))
    go_ret2;rw[HO.out];exact⟨rfl,oY H.out.be B2 H.out.rdr.hs (lu H.out.be hb)⟩
   | some jr =>
    obtain⟨j,rest⟩:=jr;have HRn:=hid' hr;rw[hr]at HN;obtain⟨j1,j2,⟨q,j3,_⟩,_⟩:=nH _ _ _ _ _ _ _ hr;clear hr;have hij:i<=j:=by omega
    rw[aa]at j2;clear j3;obtain⟨P,hP⟩:=Ex' (p+1);have hP1:1<=P:=by omega
    have hP2:P<=3000:=by omega
    have q1:=Nat.div_le_self j P;have r1:=Nat.mod_lt j (show 0<P by omega);have HST:Hid ((⟨n,i,pts⟩:St).step (j - i)=⟨n+((j / P:Nat):Int),j % P+1,pts.take (j % P)++(n+((j / P:Nat):Int))::pts.drop (j % P)⟩):=by show _=_;have:=step_eq ⟨n,i,pts⟩ j hij;rw[show(⟨n,i,pts⟩:St).pts.length+1=P by show pts.length+1=P;rw[H.out.len];exact hP]at this;exact this
    obtain⟨Q,hQ⟩:=Ex' (j / P);obtain⟨R,hR⟩:=Ex' (j % P);have eQ:(j:Int) / ((p:Int)+1)=(Q:Int):=by rw[<-hQ,<-hP];push_cast;rfl
    have eR:(j:Int) % ((p:Int)+1)=(R:Int):=by rw[<-hR,<-hP];push_cast;rfl
    rw[hQ,hR]at HST;rw[hQ]at q1;rw[hR]at r1;have rp:R<=p:=by omega
    have HP:=hid' hP;clear hQ hR hP;obtain⟨d,hd'⟩:=Ex' (j - i);have ed:(j:Int) - (i:Int)=(d:Int):=by omega
    have d1:d<=2147483647:=by omega
    rw[hd']at HST;have HD:=hid' hd';clear hd';have HAL:=hid' (wF d (p+1));have HA:=hid' (fun(f:Bool) (w:World)=>(show Calls prog 351 #[.int .i64 d,.int .i64 ((p:Int)+1),.bool f] w _ from ri d (p+1) f (by omega) (by omega) (by omega) w));cases hsc:ab (n+(Q:Int)) with
    | false =>
     have HO:Hid (o=none):=by show _=_;rw[H.out.eq];exact Jf _ _ _ _ _ HRn.out (by show ab ((⟨n,i,pts⟩:St).step (j - i)).n=false;rw[HD.out,HST.out];exact hsc)
     have HSC:=hid' hsc;clear hsc
     go_wp2_with(first
       | (go_at_call 370;refine(dG base _ Bs Bl t H.out.rdr).mono ?_;rw[hd];rintro e w' ⟨rfl,hw'⟩;obtain rfl:=hw'.symm)
       | (go_at_call 350;refine HN.out.mono ?_;rintro e w2 ⟨⟨rfl,-⟩,B2⟩)
       | (go_at_call 351;refine(HA.out _ _).mono ?_;rintro e w' ⟨rfl,hw'⟩;obtain rfl:=hw'.symm)
       | (go_at_call 352;refine(oz _ (by omega) (by omega) _).mono ?_;rw[HSC.out];rintro e w3 ⟨rfl,B3⟩))
     go_ret2;rw[HO.out];have b2:=oY H.out.be B2 H.out.rdr.hs (lu H.out.be hb);exact⟨rfl,b2.trans (B3.mono (lu b2 hb))⟩
    | true =>
     have hsl:=mq hsc;have HO:Hid (o=RD ⟨n+(Q:Int),R+1,pts.take R++(n+(Q:Int))::pts.drop R⟩ (adapt d (p+1) (i==0)) rest):=by show _=_;have e:=tb _ _ _ _ _ HRn.out (by show ab ((⟨n,i,pts⟩:St).step (j - i)).n=true;rw[HD.out,HST.out];exact hsc);rw[H.out.eq,e];show RD ((⟨n,i,pts⟩:St).step (j - i)) (adapt (j - i) (pts.length+1) (i==0)) rest=_;rw[HD.out,HST.out,H.out.len]
     have HSC:=hid' hsc;clear hsc
     go_wp2_with(first
       | (go_at_call 370;refine(dG base _ Bs Bl t H.out.rdr).mono ?_;rw[hd];rintro e w' ⟨rfl,hw'⟩;obtain rfl:=hw'.symm)
       | (go_at_call 350;refine HN.out.mono ?_;rintro e w2 ⟨⟨rfl,hex⟩,B2⟩)
       | (go_at_call 351;refine(HA.out _ _).mono ?_;rintro e w' ⟨rfl,hw'⟩;obtain rfl:=hw'.symm)
       | (go_at_call 352;refine(oz _ (by omega) (by omega) _).mono ?_;rw[HSC.out];rintro e w3 ⟨rfl,B3⟩))
     obtain⟨t',RD2,HRt,ht'⟩:=hex;have HRt':=hid' HRt;have htl:t'.size<t.size:=by rw[<-aa t',HRt];exact j2
     clear HRt;have r2:=H.out.row.kept B2 (.inr (H.out.rdr.s.not_row (by decide) H.out.row).symm);have b2:=oY H.out.be B2 H.out.rdr.hs (lu H.out.be hb);have r3:=an r2 B3 (le_refl _);have RD3:=RD2.below B3 (le_refl _);have b3:=b2.trans (B3.mono (lu b2 hb));have z3:=lu b3 hb;have r4:=r3.alloc (.cells #[.int .i32 (n+(Q:Int))] 21);have RD4:Rdr base (w3.alloc (.cells #[.int .i32 (n+(Q:Int))] 21)) Bs Bl t':=⟨RD3.s.alloc _,RD3.l.alloc _,RD3.hs⟩
     have HI:=xP base (.slice a p c) pts R w3.heap.size (n+(Q:Int)) (w3.alloc (.cells #[.int .i32 (n+(Q:Int))] 21)) (by rw[H.out.len];exact rp) (by rw[H.out.len];omega) (by rw[H.out.len];exact r4) (by simp;omega)
      (Boxed.new w3 21 _) (fun e=>absurd (r3.lt _ e.symm).2 (Nat.lt_irrefl _))
     rw[H.out.len]at HI;refine HI.mono ?_;rintro e w5 ⟨v5,rfl,r5,g5⟩;obtain⟨a5,c5,rfl⟩:=bY r5;have be5:Below base w w5:=(b3.alloc z3 (.cells #[.int .i32 (n+(Q:Int))] 21)).grown g5 (by simp;omega) (fun k ek=>(r3.lt _ ek).1);have RD5:=hid' (RD4.kept r4 g5);have R5:=hid' r5;have BE5:=hid' be5
     have HBB:Hid ((((i:Int)==0):Bool)=(i==0)):=by
      show _=_;cases i with
      | zero=>rfl
      | succ k=>simp;omega
     have hal:=HAL.out ((i:Int)==0) (by omega);clear HI r5 g5 be5 r4 RD4 r3 RD3 b3 b2 r2 RD2 B2 B3;go_wp2
     go_roundw
     case rel =>
      refine⟨a5,c5,true,n+(Q:Int),R+1,p+1,adapt d (p+1) ((i:Int)==0),pts.take R++(n+(Q:Int))::pts.drop R,t',rfl,rfl,rfl,by go_num,by first | rfl | go_num,by omega,by omega,by omega,by omega,by omega,by omega,⟨R5.out,?_,RD5.out,?_,BE5.out⟩⟩
      ·have:=H.out.len;simp;omega
      ·rw[HO.out,HBB.out,HRt'.out]
     case measure =>
      rw[iV RD5.out.s,HSZ.out];exact htl
theorem mH:∀(l:List Int),Bytes l->asc l=true->dec l=l
 | [],_,_=>rfl
 | a::t,hb,ha=>by
  simp only[asc,all_cons,Bool.and_eq_true]at ha;have h1:a<128:=by simpa using ha.1
  rw[aO (a::t) (by simp) hb,jw a t h1];show a::dec ((a::t).drop 1)=_;rw[List.drop_one,List.tail_cons,mH t (fun b hb'=>hb b (by simp[hb'])) ha.2]
theorem IS(l:List Int)(k:Nat)(h:asc l=true):asc (l.take k)=true:=by unfold asc at *;rw[all_eq_true]at *;exact fun x hx=>h x (List.mem_of_mem_take hx)
theorem nU{base b:Nat}{v:Value}{n:Nat}{X:List Value}{W:World}(h:W.ownsRow base 21 1 v n X)(hb:b<=base):W.ownsRow b 21 1 v n X:=by
 rcases h with⟨h1,h2 | ⟨g,cap,cur,rfl,hbg,h3⟩⟩
 ·exact⟨h1,.inl h2⟩
 ·exact⟨h1,.inr ⟨g,cap,cur,rfl,le_trans hb hbg,h3⟩⟩
def td(l:List Int):Option (List Int):=RD (run (eF l) []) 72 (aft l)
def yz(l:List Int)(w':World)(base:Nat)(v:Value)(e:Int):Prop :=
 (63<l.length/\v=.slice none 0 0/\e=4)\/(l.length<=63/\(asc l=false\/td l=none)/\v=.slice none 0 0/\e=8) \/
  (l.length<=63/\asc l=true/\∃ pts,td l=some pts/\e=0/\w'.ownsRow base 21 1 v pts.length (pts.map (Value.int .i32)))
theorem ix(s:ByteArray)(w:World):
  Calls prog 289 #[.string s] w fun e W'=>(∃ v r,e=.returned (.tuple #[v,.int .i64 r])/\yz (bn s) W' w.heap.size v r)/\Below w.heap.size w W':=by
 go_enter func289,ntmps289;by_cases h1:63<s.size
 ·go_wp2;go_ret2;exact⟨⟨_,_,rfl,.inl ⟨by rw[aa];exact h1,rfl,rfl⟩⟩,Below.refl _ _⟩
 ·have HL:Hid ((bn s).length<=63):=by show _<=_;rw[aa];omega
  cases ha:asc (bn s) with
  | false =>
   have HA:=hid' ha;clear ha;go_wp2_with(go_at_call 311;refine(lW s (by omega) _).mono ?_;rw[HA.out];rintro e w' ⟨rfl,rfl⟩);go_ret2;exact⟨⟨_,_,rfl,.inr (.inl ⟨HL.out,.inl HA.out,rfl,rfl⟩)⟩,Below.refl _ _⟩
  | true =>
   have HA:=hid' ha;clear ha
   go_wp2_with(first
     | (go_at_call 311;refine(lW s (by omega) _).mono ?_;rw[HA.out];rintro e w' ⟨rfl,hw'⟩;obtain rfl:=hw'.symm)
     | (go_at_call 312;refine(xT s (by omega) _).mono ?_;rintro e w1 ⟨x,y,rfl,e1,e2,s1,s2,B1⟩))
   have HD:Hid (dec (bn x)=eF (bn s)):=by show _=_;rw[mH (bn x) (ay x) (by rw[e1];exact IS _ _ HA.out),e1]
   have HE2:=hid' e2;clear e1 e2;refine(oR x (by omega) _).mono ?_;rintro e w2 ⟨v2,rfl,r2,B2⟩;rw[HD.out]at r2;obtain⟨a2,c2,rfl⟩:=bY r2;have hfl:(eF (bn s)).length<=s.size:=by unfold eF;rw[length_take,aa];omega
   obtain⟨p,hp⟩:=Ex' ((eF (bn s)).length);rw[hp]at r2 hfl ⊢;have HP:=hid' hp;have R2:=hid' r2;have s12:=B1.size;clear hp r2;go_wp2_with fail;refine(Et w1.heap.size a2 c2 p (eF (bn s)) y w2 HP.out (by omega) (by omega) R2.out B2.size).mono ?_;rw[HE2.out];rintro e w3 ⟨hr,B3⟩;have BB:Below w.heap.size w w3:=(B1.trans (B2.mono B1.size)).trans (B3.mono s12);cases ho:RD (run (eF (bn s)) []) 72 (aft (bn s)) with
   | none =>
    rw[ho]at hr;obtain rfl:=hr;have HO:=hid' ho;clear ho;go_wp2;go_ret2;exact⟨⟨_,_,rfl,.inr (.inl ⟨HL.out,.inr HO.out,rfl,rfl⟩)⟩,BB⟩
   | some pts =>
    rw[ho]at hr;obtain⟨v3,rfl,r3⟩:=hr;obtain⟨a3,c3,rfl⟩:=bY r3;have HO:=hid' ho;have R3:=hid' r3;clear ho r3;go_wp2;go_ret2;exact⟨⟨_,_,rfl,.inr (.inr ⟨HL.out,HA.out,pts,HO.out,rfl,nU R3.out s12⟩)⟩,BB⟩
theorem qV(l:List Int)(h:∀ c∈l,c≠45):∀ k,k<=l.length->iP l k=0
 | 0,_=>rfl
 | k+1,hk=>by rw[iP,if_neg,qV l h k (by omega)];rw[getElem?_eq_getElem (by omega)];exact h _ (getElem_mem _)
theorem qU(l:List Int)(m:Nat)(h:∀ k,m<=k->k<l.length->l[k]?.getD 0≠45):∀ k,m<=k->k<=l.length->iP l k=iP l m
 | 0,h1,_=>by rw[show m=0 by omega]
 | k+1,h1,h2=>by
  by_cases e:m=k+1
  ·rw[e]
  ·rw[iP,if_neg (h k (by omega) (by omega)),qU l m h k (by omega) (by omega)]
theorem Qz(p t:List Int)(hp:0<p.length)(ht:∀ c∈t,45<c):cutAt (p++[45]++t)=p.length:=by
 have hl:(p++[45]++t).length=p.length+1+t.length:=by simp;omega
 unfold cutAt;rw[qU _ (p.length+1) ?_ _ (by omega) (le_refl _)]
 ·rw[iP,if_pos];rw[List.append_assoc,List.getElem?_append_right (le_refl _),sub_self];rfl
 ·intro k h1 h2;rw[hl]at h2;rw[List.getElem?_append_right (by simp;omega)];have hk:k - (p++[45]).length<t.length:=by simp;omega
  rw[getElem?_eq_getElem hk];have:=ht _ (getElem_mem hk);show t[k - (p++[45]).length]≠45;omega
theorem Fe(p t:List Int)(ht:∀ c∈t,45<c):eF (hd p++t)=p/\aft (hd p++t)=t:=by
 by_cases hp:p.length=0
 ·have e:p=[]:=List.eq_nil_of_length_eq_zero hp;subst e;have hc:cutAt t=0:=qV t (fun c hc=>by have:=ht c hc;omega) _ (le_refl _);simp only[hd,length_nil,if_true,nil_append];exact⟨by rw[eF,hc];rfl,by rw[aft,if_pos hc]⟩
 ·have e:hd p++t=p++[45]++t:=by unfold hd;rw[if_neg hp]
  rw[e];have hc:=Qz p t (by omega) ht;constructor
  ·rw[eF,hc,List.append_assoc,List.take_left]
  ·rw[aft,hc,if_neg hp];have:p.length+1=(p++[45]).length:=by simp
   rw[this,List.drop_left]
theorem sJ{l T:List Int}(h:Enc l T)(hs:l.all ab=true)(hl:l.length<=63):td T=some l/\asc T=true:=by
 have hsc:∀ x∈l,ab x=true:=List.all_eq_true.1 hs;have h0:∀ x∈l,0<=x:=fun x hx=>(mq (hsc x hx)).1;constructor
 ·obtain⟨ds,rfl,hr⟩:=h;obtain⟨e1,e2⟩:=Fe (plain l) (tx (plain l).length ds) (fun c hc=>(mY _ ds c hc).1);unfold td;rw[e1,e2];have hlen:=dO (plain l) ds;rw[hr]at hlen;have:=Og (plain l) (nR l) [] ds (by rw[hr];exact hsc) (by omega) [];rw[List.append_nil]at this;exact this.trans (by rw[QY,hr])
 ·unfold asc;rw[all_eq_true];intro c hc;have:=h.ascii h0 c hc;simp;omega
def lower(L:List Int):List Int:=if cutAt L=0 then L.map low else L.take (cutAt L+1)++(L.drop (cutAt L+1)).map low
theorem mF{L pts:List Int}(h:td L=some pts)(ha:asc L=true)(hb:Bytes L)(hl:L.length<=63):Enc pts (lower L)/\pts.all ab=true/\pts.length<=63:=by
 have hf:∀ x∈eF L,0<=x/\x<128:=fun x hx=>by have hm:=List.mem_of_mem_take hx;have h1:=List.all_eq_true.1 ha x hm;exact⟨(hb x hm).1,by simpa using h1⟩
 obtain⟨es,h1,h2,h3⟩:=Ah (eF L) hf (aft L).length (aft L) [] pts (le_refl _) (fun x hx=>Ei (hf x hx).1 (hf x hx).2) h;have hpl:plain pts=eF L:=by rw[<-h1];exact yZ (eF L) (fun x hx=>(hf x hx).2) es
 have hlow:lower L=hd (eF L)++(aft L).map low:=by
  unfold lower hd aft eF;by_cases hc:cutAt L=0
  ·rw[if_pos hc,hc,if_pos (by simp),if_pos rfl];rfl
  ·have hk:=sO L L.length hc;change L[cutAt L]?.getD 0=45/\cutAt L<L.length at hk;rw[if_neg hc,if_neg hc,if_neg (by rw[length_take];omega),bX L _ hk.2,hk.1]
 have htx:tx (eF L).length es=(aft L).map low:=by rw[h2];simp[tx]
 have hE:Enc pts (lower L):=⟨es,by rw[hpl,hlow,htx],by rw[hpl];exact h1⟩;refine⟨hE,List.all_eq_true.2 h3,?_⟩;have l1:=dO (eF L) es;rw[h1]at l1;have l2:=Dg (eF L).length es;rw[htx,length_map]at l2
 have l3:(eF L).length+(aft L).length<=L.length:=by
  unfold eF aft;split
  ·rename_i hc;rw[hc];simp
  ·rw[length_take,length_drop];omega
 omega
end P
namespace I
def rdx(T:List Int):Option (List Int):=if 63<T.length then none else if P.asc T=false then none else P.td T
def one(l:List Int)(hy:Bool):List Int×Int :=
 if L.dE l=false then (l,L.flt l hy) else if plain l=false then (l,512) else match rdx (l.drop 4) with
  | none=>(l,512)
  | some m=>if plain m=true then (l,512) else (m,L.flt m hy)
def jV(xs:List (List Int×Int)):Bool:=xs.any fun x=>L.lY x.1
def eI(x:List Int×Int):List Int×Int:=(x.1,if L.ef x.1 then x.2 else x.2+256)
def prc(X:List Int)(hy:Bool):List (List Int×Int) :=
 if jV ((spl X).map fun l=>one l hy)=true then ((spl X).map fun l=>one l hy).map eI else (spl X).map fun l=>one l hy
def noF(xs:List (List Int×Int)):Bool:=xs.all fun x=>decide (x.2=0)
theorem one_nonneg(l:List Int)(hy:Bool):0<=(one l hy).2:=by
 unfold one;split
 ·exact gR l hy
 ·split
  ·show(0:Int)<=512;omega
  ·split
   ·show(0:Int)<=512;omega
   ·split
    ·show(0:Int)<=512;omega
    ·exact gR _ hy
theorem uk{l:List Int}{hy:Bool}(h:(one l hy).2=0):L.flt (one l hy).1 hy=0:=by
 unfold one at h ⊢;split
 ·rename_i h1;rw[if_pos h1]at h;exact h
 ·rename_i h1;rw[if_neg h1]at h;split
  ·rename_i h2;rw[if_pos h2]at h;exact absurd h (show ¬ (512:Int)=0 by omega)
  ·rename_i h2;rw[if_neg h2]at h;cases hr:rdx (l.drop 4) with
   | none =>
    rw[hr]at h;exact absurd h (show ¬ (512:Int)=0 by omega)
   | some m =>
    rw[hr]at h;simp only at h ⊢;split
    ·rename_i h3;rw[if_pos h3]at h;exact absurd h (show ¬ (512:Int)=0 by omega)
    ·rename_i h3;rw[if_neg h3]at h;exact h
structure Ok(hy:Bool)(ls:List (List Int)):Prop where
 ne:ls≠[]
 flt:∀ l∈ls,L.flt l hy=0
 bidi:ls.any L.lY=true->∀ l∈ls,L.ef l=true
theorem any_map{α β:Type}(f:α->β)(p:β->Bool):∀ l:List α,(l.map f).any p=l.any (fun x=>p (f x))
 | []=>rfl
 | a::l=>by rw[map_cons,List.any_cons,List.any_cons,any_map f p l]
theorem qv:∀(ys:List (List Int×Int)),(∀ x∈ys,x.2=0)->ys=(ys.map (·.1)).map (fun l=>(l,0))
 | [],_=>rfl
 | y::ys,h=>by have h1:=qv ys (fun x hx=>h x (by simp[hx]));have h2:=h y (by simp);rw[map_cons,map_cons,<-h1];congr 1;exact Prod.ext rfl h2
theorem ox{p:Int->Prop}(h46:p 46):∀(xs:List (List Int)),(∀ l∈xs,∀ r∈l,p r)->∀ r∈join xs,p r
 | [],_,r,hr=>by simp[join]at hr
 | [a],hx,r,hr=>hx a (by simp) r hr
 | a::b::l,hx,r,hr=>by
  rw[join]at hr;rcases List.mem_append.1 hr with hr | hr
  ·exact hx a (by simp) r hr
  ·rcases List.mem_cons.1 hr with rfl | hr
   ·exact h46
   ·exact ox h46 (b::l) (fun x hx'=>hx x (by simp at hx' ⊢;exact .inr hx')) r hr
theorem Pg{X:List Int}{hy:Bool}(h:noF (prc X hy)=true):Ok hy ((prc X hy).map (·.1))/\prc X hy=((prc X hy).map (·.1)).map (fun l=>(l,0)):=by
 have hz:∀ x∈prc X hy,x.2=0:=fun x hx=>by simpa using List.all_eq_true.1 h x hx
 obtain⟨a,t,hs⟩:=bF X;have h2:prc X hy=((prc X hy).map (·.1)).map (fun l=>(l,0)):=by exact qv _ hz
 refine⟨?_,h2⟩;by_cases hr:jV ((spl X).map fun l=>one l hy)=true
 ·have e:prc X hy=((spl X).map fun l=>one l hy).map eI:=by unfold prc;rw[if_pos hr]
  rw[e]at hz ⊢
  have hb:∀ x∈(spl X).map (fun l=>one l hy),x.2=0/\L.ef x.1=true:=fun x hx=>by
   have h1:=hz (eI x) (mem_map_of_mem hx);obtain⟨l,_,rfl⟩:=List.mem_map.1 hx;have h3:=one_nonneg l hy;unfold eI at h1;by_cases hk:L.ef (one l hy).1=true
   ·simp only[hk,if_true]at h1;exact⟨h1,hk⟩
   ·simp only[hk]at h1;simp at h1;omega
  have em:(((spl X).map fun l=>one l hy).map eI).map (·.1)=(spl X).map fun l=>(one l hy).1:=by rw[map_map,map_map];rfl
  rw[em];refine⟨by rw[hs];simp,?_,?_⟩
  ·intro l hl;obtain⟨y,hy',rfl⟩:=List.mem_map.1 hl;exact uk (hb _ (mem_map_of_mem hy')).1
  ·intro _ l hl;obtain⟨y,hy',rfl⟩:=List.mem_map.1 hl;exact(hb _ (mem_map_of_mem hy')).2
 ·have e:prc X hy=(spl X).map fun l=>one l hy:=by unfold prc;rw[if_neg hr]
  rw[e]at hz ⊢;have em:((spl X).map fun l=>one l hy).map (·.1)=(spl X).map fun l=>(one l hy).1:=by rw[map_map];rfl
  rw[em];refine⟨by rw[hs];simp,?_,?_⟩
  ·intro l hl;obtain⟨y,hy',rfl⟩:=List.mem_map.1 hl;exact uk (hz _ (mem_map_of_mem hy'))
  ·intro hg;unfold jV at hr;rw[any_map]at hr hg;exact absurd hg hr
theorem Ph{hy:Bool}{ls:List (List Int)}(hok:Ok hy ls)(f:List Int->List Int)(hd:∀ l∈ls,46∉f l)(h1:∀ l∈ls,one (f l) hy=(l,0)):prc (join (ls.map f)) hy=ls.map fun l=>(l,0):=by
 have hs:spl (join (ls.map f))=ls.map f:=dp _ (by simpa using hok.ne) (fun a ha=>by
   obtain⟨l,hl,rfl⟩:=List.mem_map.1 ha
   exact hd l hl)
 have hm:(ls.map f).map (fun l=>one l hy)=ls.map fun l=>(l,0):=by rw[map_map];exact List.map_congr_left (fun l hl=>h1 l hl)
 unfold prc;rw[hs,hm];split
 ·rename_i hr;unfold jV at hr;rw[any_map]at hr;have hb:=hok.bidi hr;rw[map_map];apply List.map_congr_left;intro l hl;simp[eI,hb l hl]
 ·rfl
theorem um{l:List Int}{hy:Bool}(h:L.flt l hy=0):one l hy=(l,0):=by unfold one;rw[if_pos (zN h).pre,h]
def Part(l p:List Int):Prop:=(plain l=true/\p=l)\/(plain l=false/\∃ T,P.Enc l T/\T.length<=63/\l.length<=63/\l.all U.ab=true/\p=[120,110,45,45]++T)
theorem Ci{l T:List Int}(h:P.Enc l T):∀ c∈T,(c∈l/\c<128)\/97<=c/\c<=122\/48<=c/\c<=57\/c=45:=by
 obtain⟨ds,rfl,hr⟩:=h
 have hsg:∀ d,d<36->97<=P.sgn d/\P.sgn d<=122\/48<=P.sgn d/\P.sgn d<=57\/P.sgn d=45:=fun d hd=>by
  unfold P.sgn;split
  ·exact .inl (by omega)
  ·exact .inr (.inl (by omega))
 have hwn:∀(q b k:Nat),∀ c∈P.wn b k q,97<=c/\c<=122\/48<=c/\c<=57\/c=45:=by
  intro q
  induction q using Nat.strongRecOn with
  | ind q ih =>
   intro b k c hc;have h1:=P.fH k b;have h2:=P.jD k b;rw[P.jZ]at hc;split at hc
   ·simp at hc;subst hc;exact hsg _ (by omega)
   ·rename_i hq;rcases List.mem_cons.1 hc with rfl | hc
    ·exact hsg _ (P.mU b k q hq)
    ·have:=Nat.div_le_self (q - P.thr k b) (36 - P.thr k b);exact ih _ (by omega) b (k+36) c hc
 have htx:∀(ds:List Nat) (p:Nat),∀ c∈P.tx p ds,97<=c/\c<=122\/48<=c/\c<=57\/c=45:=by
  intro ds
  induction ds with
  | nil=>intro p c hc;simp[P.tx]at hc
  | cons d ds ih =>
   intro p c hc;rw[P.tx]at hc;rcases List.mem_append.1 hc with hc | hc
   ·exact ih p c hc
   ·exact hwn _ _ _ c hc
 intro c hc;rcases List.mem_append.1 hc with hc | hc
 ·unfold P.hd at hc;split at hc
  ·simp at hc
  ·rcases List.mem_append.1 hc with hc | hc
   ·left;unfold P.plain at hc;have:=List.mem_filter.1 hc;exact⟨this.1,by simpa using this.2⟩
   ·simp at hc;exact .inr (.inr (.inr hc))
 ·exact .inr (htx ds _ c hc)
theorem KT(T:List Int):L.dE ([120,110,45,45]++T)=true:=by unfold L.dE;exact decide_eq_true rfl
theorem aJ{hy:Bool}{l p:List Int}(h:L.flt l hy=0)(hp:Part l p):one p hy=(l,0)/\46∉p/\(∀ c∈p,(0<=c/\c<128)/\(L.sts c=1\/L.sts c=4)):=by
 have hf:=zN h;rcases hp with⟨h1,rfl⟩ | ⟨h1,T,hE,hT,hl,hs,rfl⟩
 ·exact⟨um h,hf.dot,fun c hc=>⟨cM.1 h1 c hc,hf.val c hc⟩⟩
 ·have hsc:=fun c hc=>P.mq (List.all_eq_true.1 hs c hc);have hch:=Ci hE
  have hall:∀ c∈[120,110,45,45]++T,(0<=c/\c<128)/\(L.sts c=1\/L.sts c=4)/\c≠46:=by
   intro c hc;have key:∀ c:Int,(97<=c/\c<=122\/48<=c/\c<=57\/c=45)->(0<=c/\c<128)/\(L.sts c=1\/L.sts c=4)/\c≠46:=fun c h=>⟨by omega,.inl (gh c (by omega)),by omega⟩;rcases List.mem_append.1 hc with hc | hc
   ·apply key;simp at hc;omega
   ·rcases hch c hc with⟨hm,h128⟩ | hk
    ·exact⟨⟨(hsc c hm).1,h128⟩,hf.val c hm,fun e=>hf.dot (e ▸ hm)⟩
    ·exact key c hk
  refine⟨?_,fun hm=>(hall 46 hm).2.2 rfl,fun c hc=>⟨(hall c hc).1,(hall c hc).2.1⟩⟩;obtain⟨hd,ha⟩:=P.sJ hE hs hl;have hpl:plain ([120,110,45,45]++T)=true:=cM.2 (fun c hc=>(hall c hc).1);have hdr:([120,110,45,45]++T:List Int).drop 4=T:=rfl;unfold one;rw[if_neg (by rw[KT];decide),if_neg (by rw[hpl];decide),hdr];have hr:rdx T=some l:=by unfold rdx;rw[if_neg (by omega),if_neg (by rw[ha];decide),hd]
  rw[hr];simp only;rw[if_neg (by rw[h1];decide),h]
theorem OQ{hy:Bool}{ls:List (List Int)}(hok:Ok hy ls)(f:List Int->List Int)(hp:∀ l∈ls,Part l (f l)):prc (Mp (join (ls.map f))) hy=ls.map fun l=>(l,0):=by
 have h1:∀ l∈ls,_:=fun l hl=>aJ (hok.flt l hl) (hp l hl);have hc:∀ c∈join (ls.map f),(0<=c/\c<128)/\(L.sts c=1\/L.sts c=4):=by refine ox (p:=fun c=>(0<=c/\c<128)/\(L.sts c=1\/L.sts c=4)) ⟨by omega,.inl (gh 46 (by omega))⟩ _ (fun a ha=>?_);obtain⟨l,hl,rfl⟩:=List.mem_map.1 ha;exact(h1 l hl).2.2
 have hM:Mp (join (ls.map f))=join (ls.map f):=by unfold Mp;rw[lx _ (fun r hr=>(hc r hr).2)];exact(jl _ (fun c h=>(hc c h).1)).1
 rw[hM];exact Ph hok f (fun l hl=>(h1 l hl).2.1) (fun l hl=>(h1 l hl).1)
def Alt(c:Int)(g:List Int):Prop:=g=[c]\/((97<=c/\c<=122)/\g=[c - 32])\/((97<=c/\c<=122\/48<=c/\c<=57)/\g=U.enc (c+65248))
theorem Alt.same(c:Int):Alt c [c]:=.inl rfl
theorem Alt.cap(c:Int)(h:97<=c/\c<=122):Alt c [c - 32]:=.inr (.inl ⟨h,rfl⟩)
theorem Alt.wide(c:Int)(h:97<=c/\c<=122\/48<=c/\c<=57):Alt c (U.enc (c+65248)):=.inr (.inr ⟨h,rfl⟩)
theorem Alt.cut{c:Int}{motive:(g:List Int)->Alt c g->Prop}(same:motive [c] (Alt.same c))(cap:∀ h,motive [c - 32] (Alt.cap c h))
  (wide:∀ h,motive (U.enc (c+65248)) (Alt.wide c h)) {g:List Int} (h:Alt c g):motive g h:=by
 rcases h with rfl | ⟨h,rfl⟩ | ⟨h,rfl⟩
 ·exact same
 ·exact cap h
 ·exact wide h
def cC:List Int->List Int->Prop
 | [],t=>t=[]
 | c::s,t=>∃ g u,Alt c g/\cC s u/\t=g++u
theorem cC.nil:cC [] []:=rfl
theorem cC.cons{c:Int}{g s t:List Int}(h:Alt c g)(hs:cC s t):cC (c::s) (g++t):=⟨g,t,h,hs,rfl⟩
theorem cC.cut{motive:(s t:List Int)->cC s t->Prop}(nil:motive [] [] cC.nil)
  (cons:∀ {c:Int} {g s t:List Int} (h:Alt c g) (hs:cC s t),motive s t hs->motive (c::s) (g++t) (cC.cons h hs)) :
  ∀ {s t:List Int} (h:cC s t),motive s t h
 | [],t,h=>by
  obtain rfl:t=[]:=h;exact nil
 | c::s,t,h=>by obtain⟨g,u,h1,h2,rfl⟩:=h;exact cons h1 h2 (cC.cut nil cons h2)
theorem mV:∀ c:Fin 128,(97<=c.val/\c.val<=122\/48<=c.val/\c.val<=57)->U.ab ((c.val:Int)+65248)=true/\(∃ x y z,U.enc ((c.val:Int)+65248)=[x,y,z]/\191<x)/\mpx ((c.val:Int)+65248)=[(c.val:Int)]:=by
 have:∀ c:Fin 128,(97<=c.val/\c.val<=122\/48<=c.val/\c.val<=57)->U.ab ((c.val:Int)+65248)=true/\(U.enc ((c.val:Int)+65248)).length=3/\191<(U.enc ((c.val:Int)+65248)).headD 0/\mpx ((c.val:Int)+65248)=[(c.val:Int)]:=by decide +kernel
 intro c h;obtain⟨h1,h2,h3,h4⟩:=this c h;refine⟨h1,?_,h4⟩;generalize U.enc ((c.val:Int)+65248)=e at h2 h3;match e,h2 with
 | [x,y,z],_=>exact⟨x,y,z,rfl,h3⟩
theorem Nb:∀ c:Fin 128,(97<=c.val/\c.val<=122)->mpx ((c.val:Int) - 32)=[(c.val:Int)]:=by decide +kernel
theorem zD(c:Int)(h:97<=c/\c<=122\/48<=c/\c<=57):mpx c=[c]:=qy c (.inl (gh c (by omega)))
theorem Fv:∀ {s t:List Int},cC s t->∀(f n:Nat) (r lo hi:Int),128<=lo->hi<=191->U.nxl f t n r lo hi=U.nxl f s n r lo hi:=by
 intro s t h
 induction h using cC.cut with
 | nil=>intro f n r lo hi _ _;rfl
 | @cons c g s t ha hs ih =>
  intro f n r lo hi h1 h2;cases f with
  | zero=>simp[U.nxl]
  | succ f =>
   cases ha using Alt.cut with
   | same =>
    show U.nxl (f+1) (c::t) n r lo hi=_;rw[U.nxl,U.nxl];split
    ·rfl
    ·exact ih f _ _ _ _ (by omega) (by omega)
   | cap hc =>
    show U.nxl (f+1) ((c - 32)::t) n r lo hi=_;rw[U.nxl,U.nxl,if_pos (.inl (by omega)),if_pos (.inl (by omega))]
   | wide hc =>
    obtain⟨k,rfl⟩:∃ k:Nat,c=k:=⟨c.toNat,by omega⟩;obtain⟨_,⟨x,y,z,he,hx⟩,_⟩:=mV ⟨k,by omega⟩ (by simp only;omega);simp only at he;rw[he];show U.nxl (f+1) (x::([y,z]++t)) n r lo hi=_;rw[U.nxl,U.nxl,if_pos (.inr (by omega)),if_pos (.inl (by omega))]
theorem rh:∀(n:Nat) {s t:List Int},cC s t->(∀ c∈s.take n,128<=c)->cC (s.drop n) (t.drop n)
 | 0,s,t,h,_=>h
 | n+1,[],t,h,_=>by
  obtain rfl:t=[]:=h;simp;exact .nil
 | n+1,c::s,_,⟨g,t,ha,hs,rfl⟩,hc=>by
  have h1:128<=c:=hc c (by simp)
  have h2:g=[c]:=by
   cases ha using Alt.cut with
   | same=>rfl
   | cap h=>omega
   | wide h=>omega
  subst h2;show cC (s.drop n) (t.drop n);exact rh n hs (fun x hx=>hc x (by simp[hx]))
theorem ur:∀(f:Nat) (t:List Int) (n:Nat) (r lo hi:Int),128<=lo->∀ c∈t.take ((U.nxl f t n r lo hi).2.1 - n),128<=c
 | 0,t,n,r,lo,hi,_,c,hc=>by simp[U.nxl]at hc
 | f+1,[],n,r,lo,hi,_,c,hc=>by simp at hc
 | f+1,a::t,n,r,lo,hi,h,c,hc=>by
  rw[U.nxl]at hc;split at hc
  ·simp at hc
  ·rename_i hno;have hm:=(U.zq f t (n+1) (r * 64+a % 64) 128 191).1;obtain⟨m,hm2⟩:∃ m,(U.nxl f t (n+1) (r * 64+a % 64) 128 191).2.1 - n=m+1:=⟨(U.nxl f t (n+1) (r * 64+a % 64) 128 191).2.1 - n - 1,by omega⟩;rw[hm2]at hc;rcases List.mem_cons.1 hc with rfl | hc
   ·omega
   ·exact ur f t (n+1) _ 128 191 (by omega) c (by rw[show(U.nxl f t (n+1) (r * 64+a % 64) 128 191).2.1 - (n+1)=m by omega];exact hc)
theorem Lg(a:Int)(t:List Int)(h:128<=a):∀ c∈(a::t).take (U.nx (a::t)).2.1,128<=c:=by
 intro c hc;rw[U.nx,if_neg (by omega)]at hc;split at hc
 ·simp at hc;omega
 ·have hm:=(U.zq (U.follow a).toNat t 1 (if U.follow a=1 then a % 32 else if U.follow a=2 then a % 16 else a % 8) (U.aF a) (U.aE a)).1;have ht:=ur (U.follow a).toNat t 1 (if U.follow a=1 then a % 32 else if U.follow a=2 then a % 16 else a % 8) (U.aF a) (U.aE a) (U.fO a);generalize (U.nxl (U.follow a).toNat t 1 (if U.follow a=1 then a % 32 else if U.follow a=2 then a % 16 else a % 8) (U.aF a) (U.aE a)).2.1=m at hc hm ht;obtain⟨k,rfl⟩:∃ k,m=k+1:=⟨m - 1,by omega⟩;rcases List.mem_cons.1 hc with rfl | hc
  ·exact h
  ·exact ht c (by simpa using hc)
theorem py:∀ {s t:List Int},cC s t->U.Bytes s->U.Bytes t:=by
 intro s t h
 induction h using cC.cut with
 | nil=>intro h;exact h
 | @cons c g s t ha hs ih =>
  intro hB x hx;have hc:=hB c (by simp);rcases List.mem_append.1 hx with hx | hx
  ·cases ha using Alt.cut with
   | same=>simp at hx;subst hx;exact hc
   | cap h=>simp at hx;omega
   | wide h =>
    obtain⟨k,rfl⟩:∃ k:Nat,c=k:=⟨c.toNat,by omega⟩;have:∀ c:Fin 128,(97<=c.val/\c.val<=122\/48<=c.val/\c.val<=57)->∀ x∈U.enc ((c.val:Int)+65248),0<=x/\x<=255:=by decide +kernel
    exact this ⟨k,by omega⟩ (by simp only;omega) x hx
  ·exact ih (fun y hy=>hB y (by simp[hy])) x hx
theorem px:∀(n:Nat) (s t:List Int),s.length<=n->U.Bytes s->cC s t->(U.dec t).flatMap mpx=(U.dec s).flatMap mpx
 | 0,s,t,h,hB,ha=>by
  obtain rfl:s=[]:=List.eq_nil_of_length_eq_zero (by omega);obtain rfl:t=[]:=ha;rfl
 | n+1,s,t,h,hB,ha=>by
  have hBt:=py ha hB;cases ha using cC.cut with
  | nil=>rfl
  | @cons c g s t hg hs _ =>
   have hBs:U.Bytes s:=fun y hy=>hB y (by simp[hy]);have hBt':U.Bytes t:=py hs hBs;by_cases hc:c<128
   ·have e1:(U.dec (c::s)).flatMap mpx=mpx c++(U.dec s).flatMap mpx:=by rw[U.aO (c::s) (by simp) hB,U.jw c s hc];rfl
    have ih:=px n s t (by simp at h;omega) hBs hs;rw[e1,<-ih];cases hg using Alt.cut with
    | same =>
     show(U.dec (c::t)).flatMap mpx=_;rw[U.aO (c::t) (by simp) hBt,U.jw c t hc];rfl
    | cap hk =>
     show(U.dec ((c - 32)::t)).flatMap mpx=_;rw[U.aO ((c - 32)::t) (by simp) hBt,U.jw (c - 32) t (by omega)];obtain⟨k,rfl⟩:∃ k:Nat,c=k:=⟨c.toNat,by omega⟩;have hm:=Nb ⟨k,by omega⟩ (by simp only;omega);simp only at hm;rw[flatMap_cons];show mpx ((k:Int) - 32)++_=_;rw[hm,zD _ (.inl hk)];rfl
    | wide hk =>
     obtain⟨k,rfl⟩:∃ k:Nat,c=k:=⟨c.toNat,by omega⟩;obtain⟨w1,⟨x,y,z,he,hx⟩,w3⟩:=mV ⟨k,by omega⟩ (by simp only;omega);simp only at w1 w3;have hne:U.enc ((k:Int)+65248)++t≠[]:=by simp only at he;rw[he];simp
     rw[U.aO _ hne hBt,U.nY _ w1 t,List.drop_left,flatMap_cons,w3,zD _ hk]
   ·have h2:g=[c]:=by
     cases hg using Alt.cut with
     | same=>rfl
     | cap h=>omega
     | wide h=>omega
    subst h2
    have hx:U.nx (c::t)=U.nx (c::s):=by
     rw[U.nx,U.nx,if_neg hc,if_neg hc];split
     ·rfl
     ·exact Fv hs _ _ _ _ _ (U.fO c) (U.gN c)
    have hn:=U.iy (c::s) (by simp);show(U.dec (c::t)).flatMap mpx=_;rw[U.aO (c::t) (by simp) hBt,U.aO (c::s) (by simp) hB,hx,flatMap_cons,flatMap_cons];congr 1;have hd:=rh (U.nx (c::s)).2.1 (cC.cons (Alt.same c) hs) (Lg c s (by omega));exact px n _ _ (by rw[length_drop];simp at h ⊢;omega) (hB.drop _) hd
def ld(c:Int):Prop:=97<=c/\c<=122\/48<=c/\c<=57
theorem Sa:∀ c:Fin 128,(97<=c.val/\c.val<=122\/48<=c.val/\c.val<=57)->L.mrk (c.val:Int)=false/\L.bid (c.val:Int)≠2/\L.bid (c.val:Int)≠3/\L.bid (c.val:Int)≠7:=by decide +kernel
theorem NV(c:Int)(h:ld c):L.mrk c=false/\L.bid c≠2/\L.bid c≠3/\L.bid c≠7:=by unfold ld at h;obtain⟨k,rfl⟩:∃ k:Nat,c=k:=⟨c.toNat,by omega⟩;exact Sa ⟨k,by omega⟩ (by simp only;omega)
theorem get_mem{l:List Int}{i:Nat}(h:i<l.length):l[i]?.getD 0∈l:=by rw[getElem?_eq_getElem h];exact getElem_mem h
theorem PS(l:List Int)(hy:Bool)(h:∀ c∈l,ld c):L.flt l hy=0:=by
 by_cases h0:l.length=0
 ·unfold L.flt;rw[if_pos h0]
 ·have hasc:∀ c∈l,0<=c/\c<128:=fun c hc=>by have:=h c hc;unfold ld at this;omega
  have n45:∀ i,i<l.length->l[i]?.getD 0≠45:=fun i hi e=>by have:=h _ (get_mem hi);unfold ld at this;omega
  have e1:(!decide (N.dA l=l))=false:=by rw[decide_eq_true (jl l hasc).1];rfl
  have e2:(hy&&decide (4<=l.length)&&decide (l[2]?.getD 0=45)&&decide (l[3]?.getD 0=45))=false:=by
   by_cases h4:4<=l.length
   ·rw[decide_eq_false (n45 2 (by omega))];simp
   ·rw[decide_eq_false h4];simp
  have e3:(hy&&(decide (l[0]?.getD 0=45)||decide (l[l.length - 1]?.getD 0=45)))=false:=by rw[decide_eq_false (n45 0 (by omega)),decide_eq_false (n45 (l.length - 1) (by omega))];simp
  have e4:L.dE l=false:=by
   unfold L.dE;apply decide_eq_false;intro e;have hm:(45:Int)∈l.take 4:=by rw[e];simp
   have:=h 45 (List.mem_of_mem_take hm);unfold ld at this;omega
  have e5:l.any (fun r=>decide (r=46))=false:=by rw[List.any_eq_false];intro r hr;have:=h r hr;unfold ld at this;simp;omega
  have e6:L.mrk (l[0]?.getD 0)=false:=(NV _ (h _ (get_mem (by omega)))).1;have e7:l.any L.eS=false:=by rw[List.any_eq_false];intro r hr;have h2:=h r hr;unfold ld at h2;simp[L.eS,gh r (by omega)]
  have e8:L.jok l=true:=by unfold L.jok;rw[all_eq_true];intro i hi;have hi':i<l.length:=List.mem_range.1 hi;have h2:=h _ (get_mem hi');unfold ld at h2;unfold L.jat;rw[decide_eq_false (by omega),decide_eq_false (by omega)];rfl
  rw[mE l hy h0,e1,e2,e3,e4,e5,e6,e7,e8];rfl
theorem Gk(l:List Int)(h:∀ c∈l,ld c):L.lY l=false:=by
 unfold L.lY L.has;have k:∀ b,(b=2\/b=3\/b=7)->(l.any fun r=>decide (L.bid r=b))=false:=fun b hb=>by rw[List.any_eq_false];intro r hr;have:=NV r (h r hr);rcases hb with rfl | rfl | rfl <;> simp[this]
 rw[k 2 (by simp),k 3 (by simp),k 7 (by simp)];rfl
def nu(c:Int):Nat:=if c<128 then 4 else if c<2048 then 2 else if c<65536 then 3 else 4
def nus(l:List Int):Nat:=(l.map nu).sum
theorem Lk:nus []=0:=rfl
theorem nZ(c:Int)(l:List Int):nus (c::l)=nu c+nus l:=by simp[nus]
theorem oa(a b:List Int):nus (a++b)=nus a+nus b:=by simp[nus]
theorem Fy{a b:List Int}(h:a.Perm b):nus a=nus b:=(h.map nu).sum_nat
theorem NT(c:Int):2<=nu c/\nu c<=4:=by unfold nu;(repeat' split) <;> omega
def bs(c:Int):Nat:=if c<128 then 1 else if c<2048 then 2 else if c<65536 then 3 else 4
theorem Mc:∀ k∈N.keys,nus (N.fd k)<=8/\128<=k:=by decide +kernel
theorem Hi(c:Int):nus (N.fd c)<=8/\(c<128->nus (N.fd c)<=4)/\(N.fd c=[c]\/c∈N.keys):=by
 by_cases h:D.dcp c=[]
 ·have:=NT c;rw[N.lD h];have e:nus [c]=nu c:=by rw[nZ,Lk,Nat.add_zero]
  exact⟨by omega,fun _=>by omega,.inl rfl⟩
 ·have hk:=N.gM (r:=c) (by simpa using h);have:=Mc c hk;exact⟨this.1,fun h=>by omega,.inr hk⟩
theorem PO:∀ c:Fin 128,nus ((mpx (c.val:Int)).flatMap N.fd)<=4:=by decide +kernel
theorem Mk:∀ p∈D.lX,nus (p.2.flatMap N.fd)<=8:=by decide +kernel
theorem oL(c:Int):[c].flatMap N.fd=N.fd c:=by simp
theorem RY(r:Int)(h0:0<=r):nus ((mpx r).flatMap N.fd)<=4 * bs r:=by
 by_cases hr:r<128
 ·obtain⟨k,rfl⟩:∃ k:Nat,r=k:=⟨r.toNat,by omega⟩;have:=PO ⟨k,by omega⟩;have e:bs (k:Int)=1:=by unfold bs;rw[if_pos hr]
  rw[e];exact this
 ·have hb:2<=bs r:=by unfold bs;rw[if_neg hr];(repeat' split) <;> omega
  have key:nus ((mpx r).flatMap N.fd)<=8:=by
   unfold mpx;split
   ·rw[oL];exact(Hi r).1
   ·unfold D.mp;split
    ·simp[nus]
    ·split
     ·unfold D.mpd;split
      ·rw[oL];exact(Hi _).1
      ·unfold D.inst;cases h:D.lX.lookup r with
       | none=>simp[nus]
       | some v=>exact Mk _ (D.eV h)
     ·rw[oL];exact(Hi r).1
  omega
theorem RU(l:List Int)(h:l≠[])(hl:U.Bytes l):(0<=(U.nx l).1/\bs (U.nx l).1<=(U.nx l).2.1)\/((U.nx l).1=65533/\1<=(U.nx l).2.1):=by
 by_cases hw:(U.nx l).2.2=true
 ·left;have h2:=(U.uu l h hl hw).2.1;have h3:=U.NS l hl;have h4:=congrArg List.length h2;have h5:=U.iy l h;rw[length_take]at h4;have e:(U.enc (U.nx l).1).length=bs (U.nx l).1:=by unfold U.enc bs;(repeat' split) <;> rfl
  exact⟨h3.1,by omega⟩
 ·right;rcases U.iz l h hl with⟨a,t,rfl,_,_,e⟩ | ⟨a,b,t,rfl,_,_,_,_,e⟩ | ⟨a,b,c,t,rfl,_,_,_,_,_,_,e⟩ | ⟨a,b,c,d,t,rfl,_,_,_,_,_,_,_,_,e⟩ | ⟨n,h1,_,e⟩
  ·rw[e]at hw;exact absurd rfl hw
  ·rw[e]at hw;exact absurd rfl hw
  ·rw[e]at hw;exact absurd rfl hw
  ·rw[e]at hw;exact absurd rfl hw
  ·rw[e];exact⟨rfl,h1⟩
theorem MC:nus ((mpx 65533).flatMap N.fd)<=4:=by decide +kernel
theorem yl:∀(n:Nat) (l:List Int),l.length<=n->U.Bytes l->nus (((U.dec l).flatMap mpx).flatMap N.fd)<=4 * l.length
 | n,[],_,_=>by rw[U.bL];simp[nus]
 | 0,a::t,h,_=>by simp at h
 | n+1,a::t,h,hB=>by
  have hn:=U.iy (a::t) (by simp);have ih:=yl n ((a::t).drop (U.nx (a::t)).2.1) (by rw[length_drop];simp at h ⊢;omega) (hB.drop _);rw[U.aO (a::t) (by simp) hB,flatMap_cons,List.flatMap_append,oa];rw[length_drop]at ih
  have hf:nus ((mpx (U.nx (a::t)).1).flatMap N.fd)<=4 * (U.nx (a::t)).2.1:=by
   rcases RU (a::t) (by simp) hB with⟨h0,h1⟩ | ⟨h0,h1⟩
   ·have:=RY _ h0;omega
   ·rw[h0];have:=MC;omega
  omega
theorem Pd:∀ p∈D.prs,nu p.1<=nu p.2.1+nu p.2.2:=by decide +kernel
def nup(l:List N.Pt):Nat:=nus (l.map (·.1))
theorem od(a b:List N.Pt):nup (a++b)=nup a+nup b:=by unfold nup;rw[List.map_append,oa]
theorem oc(a:N.Pt)(b:List N.Pt):nup (a::b)=nu a.1+nup b:=by unfold nup;rw[map_cons,nZ]
theorem RG{a b q:Int}(h:N.pr a b=(q,true)):nu q<=nu a+nu b:=by
 unfold N.pr D.prf at h;cases hf:D.prs.find? (fun x=>x.2.1==a&&x.2.2==b) with
 | none=>rw[hf]at h;cases h
 | some p =>
  rw[hf]at h;have hm:=List.mem_of_find?_eq_some hf;have hp:=List.find?_some hf;simp at hp;have:=Pd p hm;obtain⟨rfl,_⟩:=Prod.mk.inj h;rw[hp.1,hp.2]at this;exact this
theorem Di(t:N.TS)(c:N.Pt):nup (N.bB (N.bH t c))<=nup (N.bB t)+nu c.1:=by
 rcases N.im t c with h | ⟨A,s,B,q,ht,hr,hq,h⟩
 ·rw[h,N.sZ,od,oc];simp[nup,nus]
 ·rw[h,ht];have:=RG hq;simp only[N.bB,od,oc];omega
theorem tv:∀(l:List N.Pt) (t:N.TS),nup (N.bB (l.foldl N.bH t))<=nup (N.bB t)+nup l
 | [],t=>by simp[nup,nus]
 | c::l,t=>by have h1:=tv l (N.bH t c);have h2:=Di t c;rw[List.foldl_cons,oc];omega
theorem PD(l:List Int):nus (N.dA l)<=nus (l.flatMap N.fd):=by
 unfold N.dA N.comp N.tst;have h1:=tv (N.ord ((l.flatMap N.fd).map N.pt)) (none,[]);have h2:nup (N.ord ((l.flatMap N.fd).map N.pt))=nus (l.flatMap N.fd):=by unfold nup;rw[Fy ((N.uj _).map _),map_map];congr 1;exact List.map_id _
 have h3:nup (N.bB ((none,[]):N.TS))=0:=rfl;show nup _<=_;omega
theorem SB(l:List Int)(hB:U.Bytes l):nus (Mp (U.dec l))<=4 * l.length:=by have h1:=PD ((U.dec l).flatMap mpx);have h2:=yl l.length l (le_refl _) hB;unfold Mp;omega
end I
namespace P
open Go.RowKit U
section
variable {l : List Int} {base : Nat} {w wr : World} {v : Value} {k h dl bias : Nat} {n : Int} {j : Nat}
end
theorem ak{a b:ByteArray}(h:bn a=bn b):a=b:=by
 have h1:a.data.toList=b.data.toList:=by unfold bn at h;have:Function.Injective fun c:UInt8=>(c.toNat:Int):=fun x y hxy=>UInt8.toNat_inj.mp (by have h:(x.toNat:Int)=(y.toNat:Int):=hxy;omega);exact(List.map_inj_right (fun x y hxy=>this hxy)).1 h
 cases a;cases b;simp at h1;rw[h1]
def ig(l:List Int):List Int×Int :=
 if 63<l.length then ([],4) else if asc l=false then ([],8) else match td l with
  | none=>([],8)
  | some pts=>(pts,0)
theorem yz.one{l:List Int}{W:World}{base:Nat}{v:Value}{e:Int}(h:yz l W base v e)(hb:Bytes l):av W v (ig l).1/\e=(ig l).2/\(ig l).1.length<=63:=by
 unfold ig;rcases h with⟨h1,rfl,rfl⟩ | ⟨h1,h2,rfl,rfl⟩ | ⟨h1,h2,pts,h3,rfl,h4⟩
 ·rw[if_pos h1];exact⟨.inl ⟨rfl,_,_,rfl⟩,rfl,zero_le _⟩
 ·rw[if_neg (by omega)];split
  ·exact⟨.inl ⟨rfl,_,_,rfl⟩,rfl,zero_le _⟩
  ·rename_i h3;rcases h2 with h2 | h2
   ·exact absurd h2 h3
   ·rw[h2];exact⟨.inl ⟨rfl,_,_,rfl⟩,rfl,zero_le _⟩
 ·rw[if_neg (by omega),if_neg (by rw[h2];exact Bool.noConfusion),h3];exact⟨av.own rfl h4,rfl,(mF h3 h2 hb h1).2.2⟩
end P
namespace I
theorem Qm(c:Int):1<=(N.fd c).length:=by
 by_cases h:D.dcp c=[]
 ·rw[N.lD h];simp
 ·have:=(N.kB (N.gM (r:=c) (by simpa using h))).2.2.2.2.2.2;exact Nat.pos_of_ne_zero (fun e=>this (List.length_eq_zero_iff.1 e))
theorem vC:∀ l:List Int,l.length<=(l.flatMap N.fd).length
 | []=>by simp
 | c::l=>by have h1:=Qm c;have h2:=vC l;rw[flatMap_cons,List.length_append,length_cons];omega
theorem rY:∀ l:List Int,2 * l.length<=nus l
 | []=>by simp[nus]
 | c::l=>by have:=NT c;have h2:=rY l;rw[nZ,length_cons];omega
theorem Lt(l:List Int)(hB:U.Bytes l):((U.dec l).flatMap mpx).length<=2 * l.length:=by have h1:=vC ((U.dec l).flatMap mpx);have h2:=rY (((U.dec l).flatMap mpx).flatMap N.fd);have h3:=yl l.length l (le_refl _) hB;omega
theorem mN(l:List Int)(hB:U.Bytes l):(Mp (U.dec l)).length<=2 * l.length:=by have h1:=SB l hB;have h2:=rY (Mp (U.dec l));omega
theorem eM:∀ l:List Int,(spl l).length<=l.length+1
 | []=>by simp[spl]
 | c::l=>by
  obtain⟨a,t,h⟩:=bF l;have ih:=eM l;rw[spl];split
  ·rw[length_cons,length_cons];omega
  ·rw[h]at ih ⊢;simp only[length_cons]at ih ⊢;omega
def Scs(l:List Int):Prop:=∀ c∈l,U.ab c=true
theorem kl{l:List Int}:Scs l↔l.all U.ab=true:=by unfold Scs;rw[all_eq_true]
theorem jh(l:List Int)(hB:U.Bytes l):Scs (U.dec l):=kl.2 (U.bJ l.length l (le_refl _) hB)
theorem DH:∀ x∈D.tab,x.2.2.1=3->D.kN x.1≠0->0<=x.1+D.kN x.1/\(x.2.1+D.kN x.1<55296\/57343<x.1+D.kN x.1)/\x.2.1+D.kN x.1<=1114111:=by decide +kernel
theorem BR:∀ p∈D.lX,∀ c∈p.2,U.ab c=true:=by decide +kernel
theorem Gb(r:Int)(h:U.ab r=true):Scs (mpx r):=by
 intro c hc;unfold mpx at hc;split at hc
 ·simp at hc;rw[hc];exact h
 ·unfold D.mp at hc;split at hc
  ·simp at hc
  ·split at hc
   ·rename_i h3;unfold D.mpd at hc;split at hc
    ·rename_i hd;simp at hc;rcases D.sA r with e | ⟨hm,h1,h2⟩
     ·rw[e]at h3;exact absurd h3 (by decide)
     ·have:=DH _ hm h3 hd;rw[hc];unfold U.ab;exact decide_eq_true (by omega)
    ·unfold D.inst at hc;cases hl:D.lX.lookup r with
     | none=>rw[hl]at hc;simp at hc
     | some v =>
      rw[hl]at hc;exact BR _ (D.eV hl) c hc
   ·simp at hc;rw[hc];exact h
theorem BN:∀ k∈N.keys,∀ c∈N.fd k,U.ab c=true:=by decide +kernel
theorem ME(r:Int)(h:U.ab r=true):Scs (N.fd r):=by
 by_cases hd:D.dcp r=[]
 ·rw[N.lD hd];intro c hc;simp at hc;rw[hc];exact h
 ·exact BN r (N.gM (r:=r) (by simpa using hd))
theorem Ez:∀ p∈D.prs,U.ab p.1=true:=by decide +kernel
theorem KW{a b q:Int}(h:N.pr a b=(q,true)):U.ab q=true:=by
 unfold N.pr D.prf at h;cases hf:D.prs.find? (fun x=>x.2.1==a&&x.2.2==b) with
 | none=>rw[hf]at h;cases h
 | some p =>
  rw[hf]at h;obtain⟨rfl,_⟩:=Prod.mk.inj h;exact Ez p (List.mem_of_find?_eq_some hf)
def Scp(l:List N.Pt):Prop:=∀ p∈l,U.ab p.1=true
theorem wJ(t:N.TS)(c:N.Pt)(ht:Scp (N.bB t))(hc:U.ab c.1=true):Scp (N.bB (N.bH t c)):=by
 rcases N.im t c with h | ⟨A,s,B,q,ht',hr,hq,h⟩
 ·rw[h,N.sZ];intro p hp;rcases List.mem_append.1 hp with hp | hp
  ·exact ht p hp
  ·simp at hp;rw[hp];exact hc
 ·rw[h];rw[ht']at ht;intro p hp;simp only[N.bB]at hp ht;rcases List.mem_append.1 hp with hp | hp
  ·exact ht p (List.mem_append.2 (.inl hp))
  ·rcases List.mem_cons.1 hp with rfl | hp
   ·exact KW hq
   ·exact ht p (List.mem_append.2 (.inr (List.mem_cons.2 (.inr hp))))
theorem nd:∀(l:List N.Pt) (t:N.TS),Scp (N.bB t)->Scp l->Scp (N.bB (l.foldl N.bH t))
 | [],t,h,_=>h
 | c::l,t,h,hl=>by rw[List.foldl_cons];exact nd l _ (wJ t c h (hl c (by simp))) (fun p hp=>hl p (by simp[hp]))
theorem FD(l:List Int)(h:Scs l):Scs (N.dA l):=by
 have hp:Scp (N.ord ((l.flatMap N.fd).map N.pt)):=by intro p hp;have hm:=(N.uj _).mem_iff.1 hp;obtain⟨c,hc,rfl⟩:=List.mem_map.1 hm;obtain⟨r,hr,hcr⟩:=List.mem_flatMap.1 hc;exact ME r (h r hr) c hcr
 have:=nd _ (none,[]) (fun p hp=>by simp[N.bB]at hp) hp;intro c hc;unfold N.dA N.comp N.tst at hc;obtain⟨p,hp,rfl⟩:=List.mem_map.1 hc;exact this p hp
theorem mM(l:List Int)(h:Scs l):Scs (Mp l):=by apply FD;intro c hc;obtain⟨r,hr,hcr⟩:=List.mem_flatMap.1 hc;exact Gb r (h r hr) c hcr
theorem Eb:∀(l:List Int),Scs l->∀ a∈spl l,Scs a
 | l,h,a,ha=>fun c hc=>by
  have hj:=iD l
  have key:∀(ls:List (List Int)),a∈ls->c∈join ls:=by
   intro ls
   induction ls with
   | nil=>intro h;simp at h
   | cons b t ih =>
    intro hm;cases t with
    | nil=>simp at hm;rw[<-hm];exact hc
    | cons d t =>
     rw[join];rcases List.mem_cons.1 hm with rfl | hm
     ·simp[hc]
     ·have:=ih hm;simp[this]
  exact h c (by rw[<-hj];exact key _ ha)
theorem Cn{T:List Int}(hB:U.Bytes T):Scs (P.ig T).1:=by
 unfold P.ig;split
 ·intro c hc;simp at hc
 ·rename_i h1;split
  ·intro c hc;simp at hc
  ·rename_i h2;cases hd:P.td T with
   | none=>intro c hc;simp at hc
   | some m=>exact kl.2 (P.mF hd (by simpa using h2) hB (by omega)).2.1
theorem Fq{l:List Int}(hy:Bool)(h:Scs l):Scs (one l hy).1:=by
 unfold one;split
 ·exact h
 ·split
  ·exact h
  ·rename_i h2;cases hr:rdx (l.drop 4) with
   | none=>exact h
   | some m =>
    simp only;split
    ·exact h
    ·unfold rdx at hr;split at hr
     ·cases hr
     ·split at hr
      ·cases hr
      ·rename_i h3 h4;have hp:=cM.1 (show plain l=true by simpa using h2);have hB:U.Bytes (l.drop 4):=fun c hc=>by have:=hp c (List.mem_of_mem_drop hc);omega
       exact kl.2 (P.mF hr (by simpa using h4) hB (by omega)).2.1
theorem KV(X:List Int)(hy:Bool):(prc X hy).map (·.1)=(spl X).map fun y=>(one y hy).1:=by
 unfold prc;split
 ·rw[map_map,map_map];rfl
 ·rw[map_map];rfl
theorem EF{X:List Int}(hy:Bool)(h:Scs X):∀ x∈prc X hy,Scs x.1:=by intro x hx;have hm:x.1∈(prc X hy).map (·.1):=mem_map_of_mem hx;rw[KV]at hm;obtain⟨y,hy',e⟩:=List.mem_map.1 hm;rw[<-e];exact Fq hy (Eb X h y hy')
theorem yX{c:Int}(h:U.ab c=true):0<=c/\c<=1114111:=by unfold U.ab at h;have:=of_decide_eq_true h;omega
theorem bR(c:Int)(h:c<128):U.enc c=[c]:=by unfold U.enc;rw[if_pos h]
theorem vK(c:Int)(h:¬ c<128):∃ x y t,U.enc c=x::y::t/\128<=x:=by
 unfold U.enc;rw[if_neg h];split
 ·exact⟨_,_,_,rfl,by omega⟩
 ·split
  ·exact⟨_,_,_,rfl,by omega⟩
  ·exact⟨_,_,_,rfl,by omega⟩
theorem bD(c:Int)(l:List Int):U.aj (c::l)=U.enc c++U.aj l:=by unfold U.aj;rw[flatMap_cons]
theorem jd{l:List Int}{a:Int}{t:List Int}(ha:a<128)(h:U.aj l=a::t):∃ l',l=a::l'/\U.aj l'=t:=by
 cases l with
 | nil=>simp[U.aj]at h
 | cons c l =>
  rw[bD]at h;by_cases hc:c<128
  ·rw[bR c hc]at h;simp at h;exact⟨l,by rw[h.1],h.2⟩
  ·obtain⟨x,y,u,e,hx⟩:=vK c hc;rw[e]at h;simp at h;omega
theorem Cg{l:List Int}{a b c d:Int}{t:List Int}(ha:a<128)(hb:b<128)(hc:c<128)(hd:d<128)(h:U.aj l=a::b::c::d::t):∃ l',l=a::b::c::d::l'/\U.aj l'=t:=by obtain⟨l1,rfl,h1⟩:=jd ha h;obtain⟨l2,rfl,h2⟩:=jd hb h1;obtain⟨l3,rfl,h3⟩:=jd hc h2;obtain⟨l4,rfl,h4⟩:=jd hd h3;exact⟨l4,rfl,h4⟩
theorem nO(l:List Int):L.dE l=true↔∃ l',l=120::110::45::45::l':=by
 unfold L.dE;rw[decide_eq_true_eq];constructor
 ·intro h;refine⟨l.drop 4,?_⟩;have:=List.take_append_drop 4 l;rw[h]at this;exact this.symm
 ·rintro⟨l',rfl⟩;rfl
theorem qk(l:List Int):L.dE l=true↔∃ t,U.aj l=120::110::45::45::t:=by
 rw[nO];constructor
 ·rintro⟨l',rfl⟩;refine⟨U.aj l',?_⟩;rw[bD,bD,bD,bD];rfl
 ·rintro⟨t,h⟩;obtain⟨l',e,_⟩:=Cg (by omega) (by omega) (by omega) (by omega) h;exact⟨l',e⟩
theorem yc{l:List Int}(h:L.dE l=true):(U.aj l).drop 4=U.aj (l.drop 4):=by obtain⟨l',rfl⟩:=(nO l).1 h;rw[bD,bD,bD,bD];rfl
theorem bj:∀ {l:List Int},(∀ c∈l,c<128)->U.aj l=l
 | [],_=>rfl
 | c::l,h=>by rw[bD,bR c (h c (by simp)),bj (fun x hx=>h x (by simp[hx]))];rfl
theorem wv:∀(l:List Int),Scs l->P.asc (U.aj l)=plain l
 | [],_=>rfl
 | c::l,h=>by
  have ih:=wv l (fun x hx=>h x (by simp[hx]));have hc:=yX (h c (by simp));rw[bD];have e1:P.asc (U.enc c++U.aj l)=(P.asc (U.enc c)&&P.asc (U.aj l)):=by unfold P.asc;rw[all_append]
  have e2:plain (c::l)=((decide (0<=c)&&decide (c<128))&&plain l):=by unfold plain;rw[all_cons]
  rw[e1,e2,ih];congr 1;by_cases hk:c<128
  ·rw[bR c hk];simp[P.asc,hk,hc.1]
  ·obtain⟨x,y,u,e,hx⟩:=vK c hk;rw[e];simp[P.asc,hk];omega
theorem tW{l:List Int}(h:L.dE l=true):plain (l.drop 4)=plain l:=by obtain⟨l',rfl⟩:=(nO l).1 h;unfold plain;simp
theorem Bd{l:List Int}{hy:Bool}(hs:Scs l)(h:L.dE l=true):
  one l hy=if (P.ig (U.aj (l.drop 4))).2=0/\plain (P.ig (U.aj (l.drop 4))).1=false then ((P.ig (U.aj (l.drop 4))).1,L.flt (P.ig (U.aj (l.drop 4))).1 hy) else (l,512):=by
 have hs4:Scs (l.drop 4):=fun c hc=>hs c (List.mem_of_mem_drop hc);have ha:=wv _ hs4;rw[tW h]at ha;unfold one;rw[if_neg (by rw[h];decide)];by_cases hp:plain l=true
 ·have e:U.aj (l.drop 4)=l.drop 4:=bj (fun c hc=>(cM.1 hp c (List.mem_of_mem_drop hc)).2);rw[if_neg (by rw[hp];decide),e];obtain⟨D,hD⟩:=Ex' (l.drop 4);rw[hD];unfold rdx P.ig;by_cases h63:63<D.length
  ·simp[h63]
  ·by_cases has:P.asc D=false
   ·simp[h63,has]
   ·cases hd:P.td D with
    | none=>simp[h63,has]
    | some m=>cases hm:plain m <;> simp[h63,has,hm]
 ·have hp':plain l=false:=by simpa using hp
  rw[if_pos hp'];rw[hp']at ha;unfold P.ig;rw[ha];by_cases h63:63<(U.aj (l.drop 4)).length
  ·simp[h63]
  ·simp[h63]
theorem xM(ts:List ByteArray):U.bn ⟨(Lib.join (ts.map (·.data.toList)) [46]).toArray⟩=join (ts.map U.bn):=by
 have key:∀(xs:List (List UInt8)),(Lib.join xs [46]).map (fun c=>(c.toNat:Int))=join (xs.map fun x=>x.map fun c=>(c.toNat:Int)):=by
  intro xs
  induction xs with
  | nil=>rfl
  | cons x r ih =>
   cases r with
   | nil=>rw[Lib.join_one];rfl
   | cons y r =>
    have e:Lib.join (x::y::r) [46]=x++46::Lib.join (y::r) [46]:=by rw[Lib.join_cons,Lib.join_cons];simp[Lib.joinTail]
    rw[e,List.map_append,map_cons,ih];rfl
 show((Lib.join (ts.map (·.data.toList)) [46]).toArray.toList.map _)=_;rw[List.toList_toArray,key,map_map];rfl
end I
end Go.Proofs.YtlmflmdmolcfhaaGreatDoor
namespace Go.Proofs
open Go.Shelf Go.RowKit
shelf_lay Lays.n156 Nm 156 at Tryz as Tryz.laysJoin
end Go.Proofs
namespace Go.Proofs.YtlmflmdmolcfhaaGreatDoor
open Tryz Go.RowKit
namespace I
open Go.RowKit Go.Shelf
theorem Sb:Builder.Extra prog Tryz.laysJoin_ren where
 sizeBuilder:=by kernel_rfl
 liesBuilder:=by kernel_rfl
 t5:=by kernel_rfl
 a5:=fun w=>by kernel_rfl
 z5:=fun w=>by kernel_rfl
 v5:=fun w=>by kernel_rfl
 infoByte:=by kernel_rfl
 cellsByte:=by kernel_rfl
 sizeByte:=by kernel_rfl
 neB5:=by decide
theorem PU:Tryz.laysJoin_ren.f 156=237:=by kernel_rfl
theorem iE(bk c n:Nat)(ts:List ByteArray)(hn:ts.length=n)(w:World)(hc:∀ j,j<n->w.cell? ⟨bk,j,none⟩=some (.string (ts[j]?.getD ⟨#[]⟩)))(hp:0<n)(hnc:n<=c)(hN:n<=100000)(hlen:(join (ts.map U.bn)).length<=1000000000):
  Calls prog 237 #[.slice (some ⟨bk,0,none⟩) n c,.string ⟨#[46]⟩] w fun e W'=>(∃ t,e=.returned (.string t)/\U.bn t=join (ts.map U.bn))/\Below w.heap.size w W':=by
 subst hn;have hb:=xM ts
 have h:=Any.strings_Join Tryz.laysJoin Sb bk 0 c ts ⟨#[46]⟩ w (fun j x hj=>by
   have hjl:=(List.getElem?_eq_some_iff.1 hj).1
   have:=hc j hjl
   rw[hj]at this
   rw[Nat.zero_add];exact this) (U.lt_of_cell (a:=⟨bk,0,none⟩) (hc 0 hp)) (by omega) hnc (by
     have h1:=congrArg List.length hb
     rw[U.aa]at h1
     have h2:(⟨(Lib.join (ts.map (·.data.toList)) [46]).toArray⟩:ByteArray).size=(Lib.join (ts.map (·.data.toList)) [46]).length:=by simp[ByteArray.size]
     rw[h2]at h1
     show(Lib.join (ts.map (·.data.toList)) [46]).length<=_
     omega)
 rw[PU]at h;refine h.mono ?_;rintro e W' ⟨rfl,hB⟩;exact⟨⟨_,rfl,hb⟩,hB⟩
end I
namespace N
theorem wI{W:World}{v:Value}{zs:List Int}(h:bU W v zs):U.av W v zs:=by
 obtain⟨a,cap,rfl,hf⟩:=h;by_cases h0:zs.length=0
 ·exact .inl ⟨List.length_eq_zero_iff.1 h0,a,cap,by rw[h0]⟩
 ·obtain⟨b,off,cur,rfl,hg,hc⟩:=hf (by omega);exact .inr ⟨by omega,b,off,cap,rfl,fun j hj=>by simp[World.cell?,hg,hc j hj]⟩
end N
namespace L
theorem aM{w:World}{v:Value}{L:List Int}(h:U.av w v L):∃ a c,v=.slice a L.length c/\(0<L.length->∃ b off,a=some ⟨b,off,none⟩/\∀ j,j<L.length->w.cell? ⟨b,off+j,none⟩=some (.int .i32 (L[j]?.getD 0))):=by
 rcases h with⟨rfl,x,c,rfl⟩ | ⟨hp,b,off,c,rfl,h⟩
 ·exact⟨x,c,rfl,fun h=>by simp at h⟩
 ·exact⟨_,c,rfl,fun _=>⟨b,off,rfl,h⟩⟩
theorem ji{w wr:World}{a:Option Addr}{n:Nat}{L:List Int}(hf:0<n->∃ b off,a=some ⟨b,off,none⟩/\∀ j,j<n->w.cell? ⟨b,off+j,none⟩=some (.int .i32 (L[j]?.getD 0)))(hB:Below w.heap.size w wr)(k:Nat)(hk:k<n):
  ∃ b off,a=some ⟨b,off,none⟩/\wr.cell? ⟨b,off+k,none⟩=some (.int .i32 (L[k]?.getD 0)):=by
 obtain⟨b,off,e,hc⟩:=hf (by omega);exact⟨b,off,e,(hB.cell (p:=⟨b,off+k,none⟩) (U.lt_of_cell (hc k hk))).trans (hc k hk)⟩
theorem take_one(L:List Int)(k:Nat)(h:k<L.length):L.take (k+1)=L.take k++[L[k]?.getD 0]:=by rw[List.take_succ_eq_append_getElem h,getElem?_eq_getElem h];rfl
theorem Ke(r:Int):IntKind.wrap .u16 (2 ^ (bid r).toNat)=(dir r:Int):=by
 have h:=oQ r;have e:((dir r:Nat):Int)=2 ^ (bid r).toNat:=by unfold dir;push_cast;rfl
 rw[<-e];rw[IntKind.wrap_u16];omega
theorem fT(r:Int)(w:World):
  Calls prog 314 #[.int .i32 r] w fun e W'=>e=.returned (.int .u16 (dir r))/\Below w.heap.size w W':=by
 have hb:=oX r;have HD:=hid (Ke r);have hc:Calls prog 354 #[.int .i32 r] w fun e W'=>e=.returned (.int .u8 (bid r))/\Below w.heap.size w W':=D.oW r w;have HC:=hid hc;obtain⟨b,hbb⟩:=Ex' (bid r);rw[hbb]at HC HD hb;clear hc hbb;go_enter func314,ntmps314;go_wp2_with fail;refine HC.out.mono ?_;rintro e w1 ⟨rfl,B1⟩;go_wp2;go_ret;exact⟨by rw[<-HD.out];rfl,B1⟩
theorem iO(v:Value)(L:List Int)(w:World)(hlen:L.length<=100000)(hv:U.av w v L):
  Calls prog 290 #[v] w fun e W'=>e=.returned (.int .u16 (gV L))/\Below w.heap.size w W':=by
 obtain⟨a,c,rfl,hf⟩:=aM hv;have HF:=hid hf;obtain⟨n,hn⟩:=Ex' L.length;rw[hn]at hlen HF ⊢;have HN:=hid hn;clear hv hf hn;go_enter func290,ntmps290;go_wp2_with fail
 go_loopw [3,8] (fun v3 v8 wr=>∃ k:Nat,k<=n/\v3=.int .u16 (gV (L.take k))/\v8=.int .i64 k/\Hid (Below w.heap.size w wr)) (fun _ v8 _=>n - (intOf v8).toNat)
 case atStart=>exact⟨0,zero_le _,rfl,rfl,Below.refl _ _⟩
 case round =>
  obtain⟨k,hk,rfl,rfl,HB⟩:=hrel;by_cases hlt:k<n
  ·obtain⟨b,off,rfl,hck⟩:=ji HF.out HB.out k hlt;have HT:=hid (take_one L k (by rw[HN.out];exact hlt));obtain⟨x,hx⟩:=Ex' (L[k]?.getD 0);rw[hx]at hck HT;clear hx;have HX:=hid (u16_or_nat (gV (L.take k)) (dir x) (by have:=kO (L.take k);omega) (by have:=oQ x;omega));have HY:=hid (Cl (L.take k) x);obtain⟨D,hD⟩:=Ex' (gV (L.take k));rw[hD]at HX HY;rw[hD];have HDD:=hid (fT x wr);obtain⟨E,hE⟩:=Ex' (dir x);rw[hE]at HX HY HDD;clear hD hE;go_wp2_with(go_at_call 314;refine HDD.out.mono ?_;rintro e w1 ⟨rfl,B1⟩)
   go_roundw
   case rel=>exact⟨k+1,by omega,by rw[HT.out,HY.out,HX.out],by go_num,HB.out.trans (B1.mono HB.out.size)⟩
   case measure=>simp[intOf];omega
  ·have e:L.take k=L:=List.take_of_length_le (by rw[HN.out];omega);rw[e];clear e;go_wp2;go_ret;exact⟨rfl,HB.out⟩
theorem AP(v:Value)(L:List Int)(w:World)(hlen:L.length<=100000)(hv:U.av w v L):
  Calls prog 264 #[v] w fun e W'=>e=.returned (.bool (lY L))/\Below w.heap.size w W':=by
 have HD:=hid (iO v L w hlen hv);have HR:Hid ((bits .and .u16 (gV L:Int) 140 != 0)=lY L):=by show _=_;rw[QO ⟨gV L,kO L⟩];simp only[vQ];rfl
 obtain⟨a,c,rfl,-⟩:=aM hv;obtain⟨X,hX⟩:=Ex' (gV L);rw[hX]at HD HR;obtain⟨n,hn⟩:=Ex' L.length;rw[hn]at HD ⊢;clear hX hv hn;go_enter func264,ntmps264;go_wp2_with fail;refine HD.out.mono ?_;rintro e w1 ⟨rfl,B1⟩;go_wp2;go_ret;exact⟨by rw[<-HR.out];rfl,B1⟩
open Go.RowKit Go.Shelf
attribute [local go_sem] Oper.semAt_some
abbrev encR(x:Int):Array Value:=#[.int .i32 x]
structure Frm(Bi Bs Bl:Nat)(i st:Int)(v:Value)(W:World):Prop where
 i:Boxed W Bi 3 (.int .i64 i)
 s:Boxed W Bs 3 (.int .i64 st)
 l:Boxed W Bl 43 v
def Old(w W:World):Prop:=∀ b,b<w.heap.size->W.heap[b]? = w.heap[b]?
theorem Old.below{w W:World}(h:Below w.heap.size w W):Old w W:=fun b hb=>h.block b hb
theorem Old.ints{w W:World}{v:Value}{L:List Int}(h:Old w W)(hI:U.av w v L):U.av W v L:=by
 rcases hI with hI | ⟨hp,b,off,c,rfl,hc⟩
 ·exact .inl hI
 ·refine .inr ⟨hp,b,off,c,rfl,fun j hj=>?_⟩;have h1:=hc j hj;have h2:=h b (U.lt_of_cell (a:=⟨b,off+j,none⟩) h1);rw[<-h1];simp[World.cell?,h2]
def lH(w:World)(Bi Bs Bl:Nat)(i st:Int)(v:Value)(W W':World):Prop:=Frm Bi Bs Bl i st v W/\Old w W->Frm Bi Bs Bl i st v W'/\Old w W'
theorem MA(w0:World)(n:Nat)(hn:1<=n)(l Bi Bs Bl:Nat)(i st:Int)(v:Value)(L:List Int)(hst:st=1\/st=-1)(hi0:0<=i)(hi1:i+st<=L.length)(hi2:i<=L.length)(hlen:L.length<=100000)(J Jx:List Int->World->Prop)
  (hY:∀ pre x W,J pre W->pre.length<L.length+1->YieldAt Fence.wide (n - 1) prog l #[.int .i32 x] W fun e W' =>
    (e=.returned (.bool true)/\J (pre++[x]) W'/\lH w0 Bi Bs Bl i st v W W')\/(e=.returned (.bool false)/\Jx (pre++[x]) W'))
  (W:World) (hF:Frm Bi Bs Bl i st v W) (hI0:U.av w0 v L) (hI:Old w0 W) (h0:J [] W) :
  CallsIn Fence.wide n prog 375 #[.func (.yield l) #[] #[],.pointer (some ⟨Bi,0,none⟩),.pointer (some ⟨Bs,0,none⟩),.pointer (some ⟨Bl,0,none⟩)] W fun e W'=>(∃ v,e=.returned v) /\
   ((∃ ys,ys=rem L st (i+st)/\J ys W')\/(∃ pre,pre <+: rem L st (i+st)/\Jx pre W')):=by
 have hci:=hF.i.cell;have hcs:=hF.s.cell;have hcl:=hF.l.cell;refine callsIn_of_wp func375 rfl trivial ?_ rfl;simp only[ntmps375,size_toArray,length_cons,length_nil,Nat.reduceAdd,Nat.reduceSub,replicate_succ,replicate_zero,push_toArray,append_toArray,nil_append,cons_append];have hb1:-1<=st:=by omega
 have hb2:st<=1:=by omega
 have hw:i+st<=100000:=by omega
 gi_wp2_with fail
 gi_loopw [5] (fun v5 wr=>∃(a:Int) (pre:List Int),-1<=a/\a<=L.length/\(st=1->0<=a)/\(st=-1->a<L.length)/\v5=.int .i64 a/\(Frm Bi Bs Bl i st v wr/\Old w0 wr)/\J pre wr/\Hid (pre.length+(rem L st a).length<=L.length)/\Hid (rem L st (i+st)=pre++rem L st a))
  (fun v5 _=>(rem L st (intOf v5)).length)
 case atStart =>
  exact⟨i+st,[],by omega,hi1,by omega,by omega,by first | rfl | go_num,⟨hF,hI⟩,h0,by
    show _<=_
    unfold rem
    split
    · simp
    · simp;omega,by show _=_;simp⟩
 case round =>
  obtain⟨a,pre,ha0,ha1,ha2,ha3,rfl,⟨hFr,hIr⟩,hJ,HPL,HE⟩:=hrel;have hcs:=hFr.s.cell;have hcl:=hFr.l.cell;obtain⟨va,vc,rfl,hf⟩:=aM (hIr.ints hI0);by_cases hin:0<=a/\a<L.length
  ·obtain⟨k,rfl⟩:∃ k:Nat,a=k:=⟨a.toNat,by omega⟩;have hk:k<L.length:=by omega
   obtain⟨b,off,rfl,hc⟩:=hf (by omega);have hck:=hc k hk;have HR:=hid (OR L st k hst hin.1 hin.2);rw[Int.toNat_natCast]at HR;obtain⟨x,hx⟩:=Ex' (L[k]?.getD 0);rw[hx]at hck HR;have hpl:pre.length<L.length+1:=by have:=HPL.out;omega
   have hyy:=hY pre x wr hJ hpl;obtain⟨fn,tmps,assign,body,hy,hR⟩:=hyy;have hk2:(k:Int)<(L.length:Int):=by omega
   have hk3:(0:Int)<=(k:Int):=by omega
   clear hx hf hc hin;gi_wp2;refine hR.mono ?_;rintro e W3 (⟨rfl,hJ3,hk3'⟩ | ⟨rfl,hJx3⟩)
   ·obtain⟨hF3,hI3⟩:=hk3' ⟨hFr,hIr⟩;have hcs3:=hF3.s.cell;gi_wp2
    go_roundw
    case rel =>
     refine⟨(k:Int)+st,pre++[x],by omega,by omega,by omega,by omega,by first | rfl | go_num,⟨hF3,hI3⟩,hJ3,?_,?_⟩
     ·show _<=_;have h1:=HPL.out;rw[HR.out,length_cons]at h1;rw[List.length_append,length_cons,length_nil];omega
     ·show _=_;rw[HE.out,HR.out];simp
    case measure =>
     simp only[intOf];rw[HR.out,length_cons];first | omega | (simp;done) | skip
   ·gi_wp2;refine bodyPost_ret (results_none rfl _ _ _) rfl ?_;exact⟨⟨_,rfl⟩,.inr ⟨pre++[x],⟨rem L st ((k:Int)+st),by rw[HE.out,HR.out];simp⟩,hJx3⟩⟩
  ·have HO:Hid (rem L st a=[]):=Kq L st a (by
     rcases hst with h | h
     · have:=ha2 h
       exact .inl ⟨h,by omega⟩
     · by_cases h2:a<0
       · exact .inr ⟨h,h2⟩
       · exact absurd ⟨by omega,ha3 h⟩ hin)
   have HJ:Hid (J (rem L st (i+st)) wr):=by show J _ _;rw[HE.out,HO.out,List.append_nil];exact hJ
   by_cases h2:0<=a
   ·have h3:¬ a<(L.length:Int):=by omega
    clear hin;gi_wp2
    go_end0
    exact⟨⟨_,rfl⟩,.inl HJ.out⟩
   ·clear hin;gi_wp2
    go_end0
    exact⟨⟨_,rfl⟩,.inl HJ.out⟩
theorem qx(n:Nat)(v:Value)(i st:Int)(w:World)(hv:∃ a m c,v=.slice a m c):
  CallsIn Fence.wide n prog 355 #[v,.int .i64 i,.int .i64 st] w fun e w'=>e=.returned (.func (.func 375) #[] #[.pointer (some ⟨w.heap.size+1,0,none⟩),.pointer (some ⟨w.heap.size+2,0,none⟩),.pointer (some ⟨w.heap.size,0,none⟩)]) /\
   w'=((w.alloc (.cells #[v] 43)).alloc (.cells #[.int .i64 i] 3)).alloc (.cells #[.int .i64 st] 3):=by
 obtain⟨a,m,c,rfl⟩:=hv;refine callsIn_of_wp func355 rfl trivial ?_ rfl;simp only[ntmps355,size_toArray,length_cons,length_nil,Nat.reduceAdd,Nat.reduceSub,replicate_succ,replicate_zero,push_toArray,append_toArray,nil_append,cons_append];gi_wp2;go_ret;exact⟨rfl,rfl⟩
theorem Frm.new(w:World)(v:Value)(i st:Int):Frm (w.heap.size+1) (w.heap.size+2) w.heap.size i st v (((w.alloc (.cells #[v] 43)).alloc (.cells #[.int .i64 i] 3)).alloc (.cells #[.int .i64 st] 3)):=by have b1:=Boxed.new w 43 v;have b2:=Boxed.new (w.alloc (.cells #[v] 43)) 3 (.int .i64 i);have b3:=Boxed.new ((w.alloc (.cells #[v] 43)).alloc (.cells #[.int .i64 i] 3)) 3 (.int .i64 st);simp only[size_alloc]at b2 b3;exact⟨b2.alloc _,b3,(b1.alloc _).alloc _⟩
theorem oJ(w0:World)(n:Nat)(hn:1<=n)(Bi Bs Bl:Nat)(i st:Int)(v:Value)(L:List Int)(hst:st=1\/st=-1)(hi0:0<=i)(hi1:i+st<=L.length)(hi2:i<=L.length)(hlen:L.length<=100000)(w:World)(hF:Frm Bi Bs Bl i st v w)(hI0:U.av w0 v L)(hI:Old w0 w)(hw:w0.heap.size<=w.heap.size):
  SeqStopsK Fence.wide n prog 375 #[.pointer (some ⟨Bi,0,none⟩),.pointer (some ⟨Bs,0,none⟩),.pointer (some ⟨Bl,0,none⟩)] encR (lH w0 Bi Bs Bl i st v) (fun ys=>ys=rem L st (i+st)) (fun pre=>pre <+: rem L st (i+st)) (L.length+1) w:=fun l J Jx W hW hJ _ hY h0 =>
 MA w0 n hn l Bi Bs Bl i st v L hst hi0 hi1 hi2 hlen J Jx hY W ⟨(hW.block Bi hF.i.lt).trans hF.i,(hW.block Bs hF.s.lt).trans hF.s,(hW.block Bl hF.l.lt).trans hF.l⟩ hI0 (fun b hb=>(hW.block b (by omega)).trans (hI b hb)) h0
theorem uM{w0:World}{Bi Bs Bl:Nat}{i st:Int}{v:Value}{A B C:World}(h:lH w0 Bi Bs Bl i st v A B)(k:lH w0 Bi Bs Bl i st v B C):lH w0 Bi Bs Bl i st v A C:=fun x=>k (h x)
theorem uN{w0:World}{Bi Bs Bl:Nat}{i st:Int}{v:Value}{w:World}(h1:Bi<w.heap.size)(h2:Bs<w.heap.size)(h3:Bl<w.heap.size)(h4:w0.heap.size<=w.heap.size)(W:World)(l:Nat)(o o':Obj)(hl:w.heap.size<=l)(_:W.heap[l]? = some o)(_:o.isCells=false)(_:o.isWalk=false):lH w0 Bi Bs Bl i st v W (W.putObj l o') :=
 fun x=>⟨⟨(putObj_heap_other (by omega)).trans x.1.i,(putObj_heap_other (by omega)).trans x.1.s,(putObj_heap_other (by omega)).trans x.1.l⟩,fun b hb=>(putObj_heap_other (by omega)).trans (x.2 b hb)⟩
theorem zK{β:Type}(Bi Bs Bl:Nat)(i st:Int)(v:Value):Own (fun(_:β) W=>Frm Bi Bs Bl i st v W):=fun s X Y row hs hg hr =>
 ⟨boxed_own Bi 3 (fun _=>.int .i64 i) s X Y row hs.i hg hr,boxed_own Bs 3 (fun _=>.int .i64 st) s X Y row hs.s hg hr,boxed_own Bl 43 (fun _=>v) s X Y row hs.l hg hr⟩
theorem bQ{W W':World}(h:Below W.heap.size W W'):KeepsOthers W W':=⟨h.size,fun k o hk _=>(h.block k (Array.getElem?_eq_some_iff.1 hk).1).trans hk⟩
theorem jb{Bi Bs Bl:Nat}{i st:Int}{v:Value}{W W':World}(h:Below W.heap.size W W')(hF:Frm Bi Bs Bl i st v W):Frm Bi Bs Bl i st v W' :=
 ⟨(h.block Bi hF.i.lt).trans hF.i,(h.block Bs hF.s.lt).trans hF.s,(h.block Bl hF.l.lt).trans hF.l⟩
attribute [local go_sem] Oper.semAt_some
theorem vD{p:Int->Bool}{f:Int->Int}{pre t:List Int}{x:Int}{z:Int}(h:pre.all (fun r=>!p r)=true)(hx:p x=true):(((pre++[x]++t).find? p).map f).getD z=f x:=by
 have:pre.find? p=none:=by rw[List.find?_eq_none];intro r hr;have:=List.all_eq_true.1 h r hr;simpa using this
 rw[List.append_assoc,List.find?_append,this];simp[hx]
theorem qK{p:Int->Bool}{f:Int->Int}{ys:List Int}{z:Int}(h:ys.all (fun r=>!p r)=true):((ys.find? p).map f).getD z=z:=by
 have:ys.find? p=none:=by rw[List.find?_eq_none];intro r hr;have:=List.all_eq_true.1 h r hr;simpa using this
 rw[this];rfl
def pJ(r:Int):Bool:=decide (joi r≠4)
def pB(r:Int):Bool:=decide (bid r≠8)
theorem NU(L:List Int)(i st:Int):nb L i st=(((rem L st (i+st)).find? pJ).map joi).getD 0:=rfl
theorem MO(r:Int):(dir r=256)↔bid r=8:=by
 have h:=oX r;constructor
 ·intro e;have:=kP r 8;rw[e]at this;have h2:Nat.testBit 256 8=true:=by decide
  rw[h2]at this;simpa using this.symm
 ·intro e;unfold dir;rw[e];rfl
theorem jx(v:Value)(L:List Int)(i st:Int)(w:World)(hs:st=1\/st=-1)(hi0:0<=i)(hi1:i<L.length)(hlen:L.length<=100000)(hv:U.av w v L):
  Calls prog 380 #[v,.int .i64 i,.int .i64 st] w fun e W'=>e=.returned (.int .u8 (nb L i st))/\Below w.heap.size w W':=by
 have hsh:∃ a m c,v=.slice a m c:=by obtain⟨a,c,e,_⟩:=aM hv;exact⟨a,_,c,e⟩
 have hln:∃ a c,v=.slice a L.length c:=by obtain⟨a,c,e,_⟩:=aM hv;exact⟨a,c,e⟩
 obtain⟨va,vc,hve⟩:=hln;refine(callsIn_wide (n:=3)).1 ?_;refine callsIn_of_wp_marks func380 rfl trivial ?_ rfl;simp only[ntmps380,size_toArray,length_cons,length_nil,Nat.reduceAdd,Nat.reduceSub,replicate_succ,replicate_zero,push_toArray,append_toArray,nil_append,cons_append];have hst:=hs;have hii:i+st<=L.length/\i<=L.length/\(0:Int)<=i:=by omega
 have hval:=(fun x=>(⟨fun h=>decide_eq_true h,fun h=>decide_eq_false (fun h2=>h2 h)⟩:(joi x≠4->pJ x=true)/\(joi x=4->pJ x=false)));clear hst;subst hve;gi_wp2_with fail;refine⟨trivial,?_⟩;refine(qx _ _ i st _ hsh).mono ?_;rintro e w' ⟨rfl,rfl⟩;gi_wp2_with fail;obtain⟨w1,hw1⟩:=Ex' (w.alloc (.cells #[.int .u8 0] 5));have hs1:w1.heap.size=w.heap.size+1:=by rw[<-hw1,size_alloc]
 have bO:Boxed w1 w.heap.size 5 (.int .u8 0):=by rw[<-hw1];exact Boxed.new w 5 (.int .u8 0)
 have hB1:Below w.heap.size w w1:=by rw[<-hw1];exact(Below.refl _ w).alloc (le_refl _) _
 have hFN:=Frm.new w1 (.slice va L.length vc) i st;rw[hw1];rw[hs1]at hFN;obtain⟨w4,hw4⟩:=Ex' (((w1.alloc (.cells #[.slice va L.length vc] 43)).alloc (.cells #[.int .i64 i] 3)).alloc (.cells #[.int .i64 st] 3));have hs4:w4.heap.size=w.heap.size+4:=by rw[<-hw4];simp only[size_alloc];omega
 have hB4:Below w.heap.size w w4:=by rw[<-hw4];exact((hB1.alloc (by omega) _).alloc (by simp;omega) _).alloc (by simp;omega) _
 have bO4:Boxed w4 w.heap.size 5 (.int .u8 0):=by rw[<-hw4];exact((bO.alloc _).alloc _).alloc _
 rw[hw4]at hFN ⊢
 refine wpIn_rangeFunc_ownF rfl (by omega) (gf:=375) (lb:=#[.pointer (some ⟨w.heap.size+1+1,0,none⟩),.pointer (some ⟨w.heap.size+1+2,0,none⟩),.pointer (some ⟨w.heap.size+1,0,none⟩)]) rfl trivial (enters_of func375 (by kernel_rfl) rfl)
  (oJ w 2 (by omega) _ _ _ i st _ L (hs) hii.2.2 hii.1 hii.2.1 hlen w4 hFN hv (Old.below hB4) (by omega)) uM (uN (by omega) (by omega) (by omega) (by omega)) (Below.refl _ _) (fun _=>rfl)
  (fun pre W=>((pre.all (fun r=>!pJ r)=true/\Boxed W w.heap.size 5 (.int .u8 0))/\Frm (w.heap.size+1+1) (w.heap.size+1+2) (w.heap.size+1) i st (.slice va L.length vc) W)/\Below w.heap.size w W)
  (fun c pre W=>(∃ q x,pre=q++[x]/\c=.ret/\q.all (fun r=>!pJ r)=true/\pJ x=true/\Boxed W w.heap.size 5 (.int .u8 (joi x)))/\Below w.heap.size w W)
  (OwnFrom.and (OwnFrom.and (OwnFrom.and (ownFrom_pure _ _) (Own.from (boxed_own _ _ _) _)) (Own.from (zK _ _ _ _ _ _) _)) (ownFrom_below (le_refl _) (by omega)))
  (fun c=>OwnFrom.and (fun s X Y row hs hg hr=>by
    obtain⟨q,x,h1,h2,h3,h4,h5⟩:=hs
    exact⟨q,x,h1,h2,h3,h4,Own.from (boxed_own w.heap.size 5 (fun(_:List Int)=>.int .u8 (joi x))) _ s X Y row h5 hg hr⟩) (ownFrom_below (le_refl _) (by omega)))
  ⟨⟨⟨rfl,bO4⟩,hFN⟩,hB4⟩
  (fun x=>{ tmps:=#[.slice va L.length vc,.int .i64 i,.int .i64 st,undef,undef,undef,.pointer (some ⟨w.heap.size,0,none⟩),.int .i32 x,undef,.slice va L.length vc,.int .i64 i,.int .i64 st,.func (.func 375) #[] #[.pointer (some ⟨w.heap.size+1+1,0,none⟩),.pointer (some ⟨w.heap.size+1+2,0,none⟩),.pointer (some ⟨w.heap.size+1,0,none⟩)],.int .i32 x,undef,undef,undef,undef,undef],defers:=[] }) ?assign ?body ?done ?stop
 case assign =>
  intro l x W K hK;gi_wp2;exact hK
 case body =>
  rintro l pre x W ⟨⟨⟨hp,hv1⟩,hF⟩,hB⟩ _;have hcall:Calls prog 384 #[.int .i32 x] W fun e W'=>e=.returned (.int .u8 (joi x))/\Below W.heap.size W W':=D.uO x W;have HX:=hid (hval x);obtain⟨y,hy⟩:=Ex' (joi x:Int);rw[hy]at hcall HX;have HY:=hid hy;clear hy;gi_wp2_with fail;refine⟨trivial,?_⟩;refine(callsIn_wide.2 hcall).mono ?_;rintro e W1 ⟨rfl,B1⟩;have hv2:Boxed W1 w.heap.size 5 (.int .u8 0):=(B1.block _ hv1.lt).trans hv1;have hc:=hv2.cell;have hf:=hv2.frozen;have hB2:=hB.trans (B1.mono hB.size);by_cases hq:y=4
  ·subst hq;gi_wp2;refine⟨bQ B1,fun h=>⟨jb B1 h.1,Old.below hB2⟩,⟨⟨?_,hv2⟩,jb B1 hF⟩,hB2⟩;rw[all_append,hp,all_cons,List.all_nil,HX.out.2 trivial];rfl
  ·have hq2:(y != 4)=true:=by simpa using hq
   have hq3:(y==4)=false:=by simpa using hq
   gi_wp2;refine⟨(bQ B1).trans (KeepsOthers.setCell _ _ _),⟨pre,x,rfl,rfl,hp,HX.out.1 hq,?_⟩,hB2.setCell (p:=⟨w.heap.size,0,none⟩) (by simp) _⟩;rw[HY.out];exact hv2.set _
 case done =>
  rintro D ys W hD rfl ⟨⟨⟨hp,hv1⟩,hF⟩,hB⟩ hK;have hc:=hv1.cell;have hf:=hv1.frozen;gi_wp2;have hK':=(KeepsOthers.setCell W ⟨w.heap.size,0,none⟩ (.int .u8 0)).same D _ hK rfl;refine⟨by simp,.inl ⟨_,_,rfl,run_takeDeferred hK',?_⟩⟩;have hc5:=cell_kept (World.cell?_setCell_same' W ⟨w.heap.size,0,none⟩ (.int .u8 0) (by rw[hc];rfl)) (grownBy_putObj' _ D (.deferred none)) (fun r e=>by cases e;exact⟨_,hK',rfl⟩);refine⟨.int .u8 0,?_,?_,(hB.setCell (p:=⟨w.heap.size,0,none⟩) (by simp) _).trans (belowK_b (w:=w) (le_refl _) _ D _ _ (by omega) hK' rfl rfl)⟩
  ·simp[results,Tryz.f380,go_sem,hc5]
  ·rw[NU,qK hp]
 case stop =>
  rintro D c pre W hD hpre ⟨⟨q,x,rfl,rfl,hq,hx,hv1⟩,hB⟩ hK;have hc:=hv1.cell;gi_wp2;refine⟨by simp,.inl ⟨_,_,rfl,run_takeDeferred hK,?_⟩⟩;have hc5:=cell_kept hc (grownBy_putObj' _ D (.deferred none)) (fun r e=>by cases e;exact⟨_,hK,rfl⟩);refine⟨.int .u8 (joi x),?_,?_,hB.trans (belowK_b (w:=w) (le_refl _) W D _ _ (by omega) hK rfl rfl)⟩
  ·simp[results,Tryz.f380,go_sem,hc5]
  ·obtain⟨t,ht⟩:=hpre;rw[NU,<-ht,vD hq hx]
theorem uL(L:List Int):(ib L:Int)=(((rem L (-1) ((L.length:Int)+-1)).find? pB).map (fun r=>(dir r:Int))).getD 0:=by unfold ib uI rem;rw[if_neg (by omega),show((L.length:Int)+-1+1).toNat=L.length by omega,List.take_length];show _=Option.getD (Option.map _ (List.find? (fun r=>decide (bid r≠8)) L.reverse)) 0;cases List.find? (fun r=>decide (bid r≠8)) L.reverse <;> rfl
def sG(r:Int):Int:=dir r
theorem vR(r:Int)(w:World):Calls prog 314 #[.int .i32 r] w fun e W'=>e=.returned (.int .u16 (sG r))/\Below w.heap.size w W':=fT r w
theorem Pn(x:Int):(sG x≠256->pB x=true)/\(sG x=256->pB x=false):=by
 have h:=MO x;unfold sG pB;constructor
 ·intro h1;exact decide_eq_true (fun h2=>h1 (by rw[h.2 h2];rfl))
 ·intro h1;exact decide_eq_false (fun h2=>h2 (h.1 (by omega)))
theorem uJ(v:Value)(L:List Int)(w:World)(hlen:L.length<=100000)(hv:U.av w v L):
  Calls prog 315 #[v] w fun e W'=>e=.returned (.int .u16 (ib L))/\Below w.heap.size w W':=by
 have hsh:∃ a m c,v=.slice a m c:=by obtain⟨a,c,e,_⟩:=aM hv;exact⟨a,_,c,e⟩
 have hln:∃ a c,v=.slice a L.length c:=by obtain⟨a,c,e,_⟩:=aM hv;exact⟨a,c,e⟩
 obtain⟨va,vc,hve⟩:=hln;refine(callsIn_wide (n:=3)).1 ?_;refine callsIn_of_wp_marks func315 rfl trivial ?_ rfl;simp only[ntmps315,size_toArray,length_cons,length_nil,Nat.reduceAdd,Nat.reduceSub,replicate_succ,replicate_zero,push_toArray,append_toArray,nil_append,cons_append];have hst:=(show(-1:Int)=1\/(-1:Int)=-1 from .inr rfl);have hii:(L.length:Int)+(-1)<=L.length/\(L.length:Int)<=L.length/\(0:Int)<=(L.length:Int):=by omega
 have hval:=Pn;clear hst;subst hve;gi_wp2_with fail;refine⟨trivial,?_⟩;refine(qx _ _ (L.length:Int) (-1) _ hsh).mono ?_;rintro e w' ⟨rfl,rfl⟩;gi_wp2_with fail;obtain⟨w1,hw1⟩:=Ex' (w.alloc (.cells #[.int .u16 0] 23));have hs1:w1.heap.size=w.heap.size+1:=by rw[<-hw1,size_alloc]
 have bO:Boxed w1 w.heap.size 23 (.int .u16 0):=by rw[<-hw1];exact Boxed.new w 23 (.int .u16 0)
 have hB1:Below w.heap.size w w1:=by rw[<-hw1];exact(Below.refl _ w).alloc (le_refl _) _
 have hFN:=Frm.new w1 (.slice va L.length vc) (L.length:Int) (-1);rw[hw1];rw[hs1]at hFN;obtain⟨w4,hw4⟩:=Ex' (((w1.alloc (.cells #[.slice va L.length vc] 43)).alloc (.cells #[.int .i64 (L.length:Int)] 3)).alloc (.cells #[.int .i64 (-1)] 3));have hs4:w4.heap.size=w.heap.size+4:=by rw[<-hw4];simp only[size_alloc];omega
 have hB4:Below w.heap.size w w4:=by rw[<-hw4];exact((hB1.alloc (by omega) _).alloc (by simp;omega) _).alloc (by simp;omega) _
 have bO4:Boxed w4 w.heap.size 23 (.int .u16 0):=by rw[<-hw4];exact((bO.alloc _).alloc _).alloc _
 rw[hw4]at hFN ⊢
 refine wpIn_rangeFunc_ownF rfl (by omega) (gf:=375) (lb:=#[.pointer (some ⟨w.heap.size+1+1,0,none⟩),.pointer (some ⟨w.heap.size+1+2,0,none⟩),.pointer (some ⟨w.heap.size+1,0,none⟩)]) rfl trivial (enters_of func375 (by kernel_rfl) rfl)
  (oJ w 2 (by omega) _ _ _ (L.length:Int) (-1) _ L ((show(-1:Int)=1\/(-1:Int)=-1 from .inr rfl)) hii.2.2 hii.1 hii.2.1 hlen w4 hFN hv (Old.below hB4) (by omega)) uM (uN (by omega) (by omega) (by omega) (by omega)) (Below.refl _ _) (fun _=>rfl)
  (fun pre W=>((pre.all (fun r=>!pB r)=true/\Boxed W w.heap.size 23 (.int .u16 0))/\Frm (w.heap.size+1+1) (w.heap.size+1+2) (w.heap.size+1) (L.length:Int) (-1) (.slice va L.length vc) W)/\Below w.heap.size w W)
  (fun c pre W=>(∃ q x,pre=q++[x]/\c=.ret/\q.all (fun r=>!pB r)=true/\pB x=true/\Boxed W w.heap.size 23 (.int .u16 (sG x)))/\Below w.heap.size w W)
  (OwnFrom.and (OwnFrom.and (OwnFrom.and (ownFrom_pure _ _) (Own.from (boxed_own _ _ _) _)) (Own.from (zK _ _ _ _ _ _) _)) (ownFrom_below (le_refl _) (by omega)))
  (fun c=>OwnFrom.and (fun s X Y row hs hg hr=>by
    obtain⟨q,x,h1,h2,h3,h4,h5⟩:=hs
    exact⟨q,x,h1,h2,h3,h4,Own.from (boxed_own w.heap.size 23 (fun(_:List Int)=>.int .u16 (sG x))) _ s X Y row h5 hg hr⟩) (ownFrom_below (le_refl _) (by omega)))
  ⟨⟨⟨rfl,bO4⟩,hFN⟩,hB4⟩
  (fun x=>{ tmps:=#[.slice va L.length vc,undef,.pointer (some ⟨w.heap.size,0,none⟩),.int .i32 x,undef,.slice va L.length vc,.slice va L.length vc,.int .i64 L.length,.func (.func 375) #[] #[.pointer (some ⟨w.heap.size+1+1,0,none⟩),.pointer (some ⟨w.heap.size+1+2,0,none⟩),.pointer (some ⟨w.heap.size+1,0,none⟩)],.int .i32 x,undef,undef,undef,undef,undef],defers:=[] }) ?assign ?body ?done ?stop
 case assign =>
  intro l x W K hK;gi_wp2;exact hK
 case body =>
  rintro l pre x W ⟨⟨⟨hp,hv1⟩,hF⟩,hB⟩ _;have hcall:Calls prog 314 #[.int .i32 x] W fun e W'=>e=.returned (.int .u16 (sG x))/\Below W.heap.size W W':=vR x W;have HX:=hid (hval x);obtain⟨y,hy⟩:=Ex' (sG x:Int);rw[hy]at hcall HX;have HY:=hid hy;clear hy;gi_wp2_with fail;refine⟨trivial,?_⟩;refine(callsIn_wide.2 hcall).mono ?_;rintro e W1 ⟨rfl,B1⟩;have hv2:Boxed W1 w.heap.size 23 (.int .u16 0):=(B1.block _ hv1.lt).trans hv1;have hc:=hv2.cell;have hf:=hv2.frozen;have hB2:=hB.trans (B1.mono hB.size);by_cases hq:y=256
  ·subst hq;gi_wp2;refine⟨bQ B1,fun h=>⟨jb B1 h.1,Old.below hB2⟩,⟨⟨?_,hv2⟩,jb B1 hF⟩,hB2⟩;rw[all_append,hp,all_cons,List.all_nil,HX.out.2 trivial];rfl
  ·have hq2:(y != 256)=true:=by simpa using hq
   have hq3:(y==256)=false:=by simpa using hq
   gi_wp2;refine⟨(bQ B1).trans (KeepsOthers.setCell _ _ _),⟨pre,x,rfl,rfl,hp,HX.out.1 hq,?_⟩,hB2.setCell (p:=⟨w.heap.size,0,none⟩) (by simp) _⟩;rw[HY.out];exact hv2.set _
 case done =>
  rintro D ys W hD rfl ⟨⟨⟨hp,hv1⟩,hF⟩,hB⟩ hK;have hc:=hv1.cell;have hf:=hv1.frozen;gi_wp2;have hK':=(KeepsOthers.setCell W ⟨w.heap.size,0,none⟩ (.int .u16 0)).same D _ hK rfl;refine⟨by simp,.inl ⟨_,_,rfl,run_takeDeferred hK',?_⟩⟩;have hc5:=cell_kept (World.cell?_setCell_same' W ⟨w.heap.size,0,none⟩ (.int .u16 0) (by rw[hc];rfl)) (grownBy_putObj' _ D (.deferred none)) (fun r e=>by cases e;exact⟨_,hK',rfl⟩);refine⟨.int .u16 0,?_,?_,(hB.setCell (p:=⟨w.heap.size,0,none⟩) (by simp) _).trans (belowK_b (w:=w) (le_refl _) _ D _ _ (by omega) hK' rfl rfl)⟩
  ·simp[results,Tryz.f315,go_sem,hc5]
  ·rw[uL,qK hp]
 case stop =>
  rintro D c pre W hD hpre ⟨⟨q,x,rfl,rfl,hq,hx,hv1⟩,hB⟩ hK;have hc:=hv1.cell;gi_wp2;refine⟨by simp,.inl ⟨_,_,rfl,run_takeDeferred hK,?_⟩⟩;have hc5:=cell_kept hc (grownBy_putObj' _ D (.deferred none)) (fun r e=>by cases e;exact⟨_,hK,rfl⟩);refine⟨.int .u16 (sG x),?_,?_,hB.trans (belowK_b (w:=w) (le_refl _) W D _ _ (by omega) hK rfl rfl)⟩
  ·simp[results,Tryz.f315,go_sem,hc5]
  ·obtain⟨t,ht⟩:=hpre;rw[uL,<-ht,vD hq hx];rfl
theorem Na(r:Int)(w:World):Calls prog 332 #[.int .i32 r] w fun e W'=>e=.returned (.int .u8 (cls r))/\Below w.heap.size w W':=D.qZ r w
def uz(x p q:Int):Bool:=decide (x=8204)&&((decide (p=1)||decide (p=3))&&(decide (q=2)||decide (q=3)))
theorem Gd(L:List Int)(b off c n i:Nat)(w w1:World)(x:Int)(hi:i<n)(hn:L.length=n)(hlen:n<=100000)(hB:Below w.heap.size w w1)(hv:U.av w1 (.slice (some ⟨b,off,none⟩) n c) L)(hc:w1.cell? ⟨b,off+i,none⟩=some (.int .i32 x)):
  ∀ w2,w2=w1->∃ p q:Int,p=nb L i (-1)/\q=nb L i 1/\(Calls prog 380 #[.slice (some ⟨b,off,none⟩) n c,.int .i64 i,.int .i64 (-1)] w1 fun e W'=>e=.returned (.int .u8 p)/\Below w1.heap.size w1 W') /\
   (∀ w3,Below w1.heap.size w1 w3->Calls prog 380 #[.slice (some ⟨b,off,none⟩) n c,.int .i64 i,.int .i64 1] w3 fun e W'=>e=.returned (.int .u8 q)/\Below w3.heap.size w3 W'):=by
 rintro w2 rfl;refine⟨_,_,rfl,rfl,jx _ L i (-1) _ (.inr rfl) (by omega) (by omega) (by omega) hv,fun w3 h3=>?_⟩;exact jx _ L i 1 w3 (.inl rfl) (by omega) (by omega) (by omega) (hv.below h3 (le_refl _))
theorem Lw(v:Value)(L:List Int)(i:Nat)(w:World)(hi:i<L.length)(hlen:L.length<=100000)(hv:U.av w v L):
  Calls prog 369 #[v,.int .i64 i] w fun e W'=>e=.returned (.bool (may L i))/\Below w.heap.size w W':=by
 have HV:=hid hv;obtain⟨a,c,rfl,hf⟩:=aM hv;obtain⟨b,off,rfl,hc⟩:=hf (by omega);obtain⟨n,hn⟩:=Ex' L.length;rw[hn]at HV hc hi hlen ⊢;have HN:=hid hn;have HC:=hid hc;have HM:Hid (may L i=((decide (0<i)&&decide (cls (L[i - 1]?.getD 0)=9))||uz (L[i]?.getD 0) (nb L i (-1)) (nb L i 1))):=rfl;obtain⟨R,hR⟩:=Ex' (may L i);rw[hR]at HM ⊢;clear hv hf hc hn hR
 have HK:∀ w1,Below w.heap.size w w1->∃ x p q:Int,x=L[i]?.getD 0/\p=nb L i (-1)/\q=nb L i 1/\w1.cell? ⟨b,off+i,none⟩=some (.int .i32 x)/\(Calls prog 380 #[.slice (some ⟨b,off,none⟩) n c,.int .i64 i,.int .i64 (-1)] w1 fun e W'=>e=.returned (.int .u8 p)/\Below w1.heap.size w1 W') /\
   (∀ w3,Below w1.heap.size w1 w3->Calls prog 380 #[.slice (some ⟨b,off,none⟩) n c,.int .i64 i,.int .i64 1] w3 fun e W'=>e=.returned (.int .u8 q)/\Below w3.heap.size w3 W'):=by
  intro w1 B1;have hcc:w1.cell? ⟨b,off+i,none⟩=some (.int .i32 (L[i]?.getD 0)):=(B1.cell (p:=⟨b,off+i,none⟩) (U.lt_of_cell (HC.out i hi))).trans (HC.out i hi);obtain⟨p,q,h1,h2,h3,h4⟩:=Gd L b off c n i w w1 _ hi HN.out hlen B1 (HV.out.below B1 (le_refl _)) hcc w1 rfl;exact⟨_,p,q,rfl,h1,h2,hcc,h3,h4⟩
 have HKK:=hid HK;clear HK;by_cases h0:0<i
 ·obtain⟨k,hk1⟩:∃ k,i=k+1:=⟨i - 1,by omega⟩;have ek:(i:Int) - 1=(k:Int):=by omega
  have h0z:(0:Int)<(i:Int):=by omega
  have hk:k<n:=by omega
  have hck:=HC.out k hk;have HCL:=hid (Na (L[k]?.getD 0) w);have hcb:=QC (L[k]?.getD 0);obtain⟨z,hz⟩:=Ex' (cls (L[k]?.getD 0));have HZM:Hid (R=(decide (z=9)||uz (L[i]?.getD 0) (nb L i (-1)) (nb L i 1))):=by show _=_;rw[HM.out,show i - 1=k by omega,hz,decide_eq_true h0,Bool.true_and]
  rw[hz]at HCL hcb;obtain⟨y,hy⟩:=Ex' (L[k]?.getD 0);rw[hy]at HCL hck;clear hy HM hz hk1 h0;go_enter func369,ntmps369;by_cases hz9:z=9
  ·subst hz9;go_wp2_with(go_at_call 332;refine HCL.out.mono ?_;rintro e w1 ⟨rfl,B1⟩);go_ret;refine⟨?_,B1⟩;rw[HZM.out];simp
  ·have hz1:(z==9)=false:=by simpa using hz9
   go_upto_if 17 with(go_at_call 332;refine HCL.out.mono ?_;rintro e w1 ⟨rfl,B1⟩)
   obtain⟨x,p,q,hx,hp,hq,hcx,h1,h2⟩:=HKK.out w1 B1;have H1:=hid h1;have H2:=hid h2;have HMM:Hid (R=uz x p q):=by show _=_;rw[HZM.out,<-hx,<-hp,<-hq,decide_eq_false hz9,Bool.false_or]
   clear hx hp hq h1 h2 HZM HKK;by_cases hx1:x=8204
   ·subst hx1
    go_wp2_with(first
      | (go_at_call 380;refine(H2.out _ B2).mono ?_;rintro e w3 ⟨rfl,B3⟩)
      | (go_at_call 380;refine H1.out.mono ?_;rintro e w2 ⟨rfl,B2⟩))
    all_goals (go_ret;refine⟨?_,(B1.trans (B2.mono B1.size)).trans (B3.mono (B1.trans (B2.mono B1.size)).size)⟩;rw[HMM.out];unfold uz;first | (simp_all;done) | (simp_all;rw[Bool.eq_iff_iff];simp;omega))
   ·have hx2:(x != 8204)=true:=by simpa using hx1
    have hx3:(x==8204)=false:=by simpa using hx1
    go_wp2;go_ret;refine⟨?_,B1⟩;rw[HMM.out];unfold uz;rw[decide_eq_false hx1];rfl
 ·obtain⟨x,p,q,hx,hp,hq,hcx,h1,h2⟩:=HKK.out w (Below.refl _ _);have H1:=hid h1;have H2:=hid h2;have HMM:Hid (R=uz x p q):=by show _=_;rw[HM.out,<-hx,<-hp,<-hq,decide_eq_false h0];simp
  have h0z:¬ (0:Int)<(i:Int):=by omega
  clear hx hp hq h1 h2 HM HKK;go_enter func369,ntmps369;by_cases hx1:x=8204
  ·subst hx1
   go_wp2_with(first
     | (go_at_call 380;refine(H2.out _ B2).mono ?_;rintro e w3 ⟨rfl,B3⟩)
     | (go_at_call 380;refine H1.out.mono ?_;rintro e w2 ⟨rfl,B2⟩))
   all_goals (go_ret;refine⟨?_,B2.trans (B3.mono B2.size)⟩;rw[HMM.out];unfold uz;first | (simp_all;done) | (simp_all;rw[Bool.eq_iff_iff];simp;omega))
  ·have hx2:(x != 8204)=true:=by simpa using hx1
   have hx3:(x==8204)=false:=by simpa using hx1
   go_wp2;go_ret;refine⟨?_,Below.refl _ _⟩;rw[HMM.out];unfold uz;rw[decide_eq_false hx1];rfl
theorem BP(v:Value)(L:List Int)(w:World)(hlen:L.length<=100000)(hv:U.av w v L):
  Calls prog 348 #[v] w fun e W'=>e=.returned (.bool (jok L))/\Below w.heap.size w W':=by
 have HV:=hid hv;obtain⟨a,c,rfl,hf⟩:=aM hv;have HF:=hid hf;obtain⟨n,hn⟩:=Ex' L.length;rw[hn]at HV HF hlen ⊢;have HN:=hid hn;have HNO:=hid (fun i h1 h2=>PT L i h1 h2);have HYES:=hid (Me L);rw[hn]at HNO HYES;obtain⟨R,hR⟩:=Ex' (jok L);rw[hR]at HNO HYES ⊢;clear hv hf hn hR;go_enter func348,ntmps348;go_wp2_with fail
 go_loopw [7] (fun v7 wr=>∃ k:Nat,k<=n/\v7=.int .i64 k/\Hid (∀ j,j<k->jat L j=true)/\Hid (Below w.heap.size w wr)) (fun v7 _=>n - (intOf v7).toNat)
 case atStart=>exact⟨0,zero_le _,rfl,(fun j hj=>by omega),Below.refl _ _⟩
 case round =>
  obtain⟨k,hk,rfl,HA,HB⟩:=hrel;by_cases hlt:k<n
  ·obtain⟨b,off,rfl,hck⟩:=ji HF.out HB.out k hlt;have HJ:Hid (jat L k=(!(decide (L[k]?.getD 0=8204)||decide (L[k]?.getD 0=8205))||may L k)):=rfl;have HM:=hid (Lw _ L k wr (by rw[HN.out];exact hlt) (by rw[HN.out];exact hlen) (HV.out.below HB.out (le_refl _)))
   have HS:Hid (jat L k=true->∀ j,j<k+1->jat L j=true):=fun h j hj=>by
    by_cases e:j=k
    ·rw[e];exact h
    ·exact HA.out j (by omega)
   have HX:=hid (HNO.out k hlt);obtain⟨x,hx⟩:=Ex' (L[k]?.getD 0);rw[hx]at hck HJ;obtain⟨m,hm⟩:=Ex' (may L k);rw[hm]at HM HJ;clear hx hm;by_cases hq:x=8204\/x=8205
   ·have HJ2:Hid (jat L k=m):=by show _=_;rw[HJ.out];rcases hq with h | h <;> simp[h]
    have hq2:((x==8204)||(x==8205))=true:=by simpa using hq
    cases m with
    | true =>
     rcases hq with rfl | rfl
     ·go_wp2_with(go_at_call 369;refine HM.out.mono ?_;rintro e w1 ⟨rfl,B1⟩)
      go_roundw
      case rel=>exact⟨k+1,by omega,by go_num,HS.out HJ2.out,HB.out.trans (B1.mono HB.out.size)⟩
      case measure=>simp[intOf];omega
     ·go_wp2_with(go_at_call 369;refine HM.out.mono ?_;rintro e w1 ⟨rfl,B1⟩)
      go_roundw
      case rel=>exact⟨k+1,by omega,by go_num,HS.out HJ2.out,HB.out.trans (B1.mono HB.out.size)⟩
      case measure=>simp[intOf];omega
    | false =>
     have HR:=hid (HX.out HJ2.out);rcases hq with rfl | rfl
     ·go_wp2_with(go_at_call 369;refine HM.out.mono ?_;rintro e w1 ⟨rfl,B1⟩);go_ret;exact⟨by rw[HR.out];rfl,HB.out.trans (B1.mono HB.out.size)⟩
     ·go_wp2_with(go_at_call 369;refine HM.out.mono ?_;rintro e w1 ⟨rfl,B1⟩);go_ret;exact⟨by rw[HR.out];rfl,HB.out.trans (B1.mono HB.out.size)⟩
   ·have HJ2:Hid (jat L k=true):=by show _=_;rw[HJ.out,decide_eq_false (fun h=>hq (.inl h)),decide_eq_false (fun h=>hq (.inr h))];rfl
    have h1:(x==8204)=false:=by simp;omega
    have h2:(x==8205)=false:=by simp;omega
    have h3:¬ x=8204:=fun h=>hq (.inl h);have h4:¬ x=8205:=fun h=>hq (.inr h);clear hq;go_wp2
    go_roundw
    case rel=>exact⟨k+1,by omega,by go_num,HS.out HJ2.out,HB⟩
    case measure=>simp[intOf];omega
  ·have HR:=hid (HYES.out (fun j hj=>HA.out j (by omega)));go_wp2;go_ret;exact⟨by rw[HR.out];rfl,HB.out⟩
def Ad(A F G:Nat):Bool :=
 if (bits .and .u16 (F:Int) 12 != 0)=true then ((bits .andNot .u16 (A:Int) 1021==0)&&(bits .and .u16 (G:Int) 156 != 0))&&(bits .and .u16 (A:Int) 144 != 144)
 else if (F:Int)=2 then (bits .andNot .u16 (A:Int) 883==0)&&(bits .and .u16 (G:Int) 18 != 0) else false
theorem Sn(r:Int):((dir r:Int)=2)↔bid r=1:=by
 have h:=oX r;constructor
 ·intro e;replace e:dir r=2:=by omega
  have:=kP r 1;rw[e]at this;have h2:Nat.testBit 2 1=true:=by decide
  rw[h2]at this;simpa using this.symm
 ·intro e;unfold dir;rw[e];rfl
theorem IJ(r:Int)(t:List Int):Ad (gV (r::t)) (dir r) (ib (r::t))=ef (r::t):=by
 unfold Ad;rw[Nh ⟨dir r,oQ r⟩,Nl ⟨gV (r::t),kO _⟩,Nj ⟨ib (r::t),uK _⟩,Ni ⟨gV (r::t),kO _⟩,Nn ⟨gV (r::t),kO _⟩,Nk ⟨ib (r::t),uK _⟩];simp only[vQ,kP,Sn];rw[gi _ 1 (by omega),gi _ 2 (by omega),gi _ 3 (by omega),gi _ 4 (by omega),gi _ 7 (by omega)];simp only[ef,Bool.or_eq_true,decide_eq_true_eq];show(if bid r=2\/bid r=3 then _ else _)=_;split
 ·cases has (r::t) 1 <;> cases has (r::t) 4 <;> cases has (r::t) 7 <;> simp
 ·show(if bid r=1 then _ else _)=_;rfl
theorem oW(v:Value)(L:List Int)(w:World)(hlen:L.length<=100000)(hv:U.av w v L):
  Calls prog 291 #[v] w fun e W'=>e=.returned (.bool (ef L))/\Below w.heap.size w W':=by
 have HV:=hid hv;obtain⟨a,c,rfl,hf⟩:=aM hv;by_cases h0:L.length=0
 ·have e:L=[]:=List.length_eq_zero_iff.1 h0;subst e;clear hf hv HV hlen;go_enter func291,ntmps291;go_wp2;go_ret;exact⟨rfl,Below.refl _ _⟩
 ·obtain⟨b,off,rfl,hc⟩:=hf (by omega);have hc0:=hc 0 (by omega)
  have HE:Hid (ef L=Ad (gV L) (dir (L[0]?.getD 0)) (ib L)):=by
   show _=_;cases L with
   | nil=>exact absurd rfl h0
   | cons r t=>exact(IJ r t).symm
  have HD:=hid (fun W (h:Below w.heap.size w W)=>iO _ L W hlen (HV.out.below h (le_refl _)));have HG:=hid (fun W (h:Below w.heap.size w W)=>uJ _ L W hlen (HV.out.below h (le_refl _)));have HF:=hid (fT (L[0]?.getD 0));obtain⟨R,hR⟩:=Ex' (ef L);obtain⟨A,hA⟩:=Ex' (gV L);obtain⟨F,hF⟩:=Ex' (dir (L[0]?.getD 0));obtain⟨G,hG⟩:=Ex' (ib L);rw[hR,hA,hF,hG]at HE;rw[hA]at HD;rw[hG]at HG;rw[hF]at HF;rw[hR];obtain⟨x,hx⟩:=Ex' (L[0]?.getD 0);rw[hx]at hc0 HF;obtain⟨n,hn⟩:=Ex' L.length;rw[hn]at HD HG h0 hlen ⊢;have h0z:¬ ((n:Int)=0):=by omega
  have h0b:((n:Int)==0)=false:=by simpa using h0z
  have hpos:(0:Int)<(n:Int):=by omega
  rw[Nat.add_zero]at hc0;have hx0:∀ y:N.aH w,y.W.cell? ⟨b,off,none⟩=some (.int .i32 x):=fun y=>(y.h.cell (p:=⟨b,off,none⟩) (U.lt_of_cell hc0)).trans hc0;have hne:Nonempty (N.aH w):=⟨⟨w,Below.refl _ _⟩⟩;clear hR hA hF hG hx hn hf hc hv HV;go_enter func291,ntmps291;go_wp2_with fail;refine N.aw (by kernel_rfl) (by kernel_rfl) ?_
  repeat (go_big_quiet_step ((first
    | (go_at_call 290;exact N.aH.call _ (HD.out _ (N.aH.h _)))
    | (go_at_call 314;exact N.aH.call _ (HF.out _))
    | (go_at_call 315;exact N.aH.call _ (HG.out _ (N.aH.h _))))))
  refine wpQuiet_nil ?_;rintro _ ⟨y,rfl⟩;have hBy:=hid y.h;generalize y.W=wy at *;clear hx0 hne;go_wp2;all_goals (go_ret;refine⟨?_,hBy.out⟩;rw[HE.out];unfold Ad;simp_all)
theorem lF{p:Int->Bool}{L:List Int}(h:∀ j,j<L.length->p (L[j]?.getD 0)=false):L.any p=false:=by rw[Bool.eq_false_iff];intro hc;obtain⟨x,hx,hp⟩:=List.any_eq_true.1 hc;obtain⟨j,hj,rfl⟩:=List.mem_iff_getElem.1 hx;have:=h j hj;rw[getElem?_eq_getElem hj]at this;exact absurd hp (by simpa using this)
theorem ta{p:Int->Bool}{L:List Int}(j:Nat)(hj:j<L.length)(h:p (L[j]?.getD 0)=true):L.any p=true:=by rw[getElem?_eq_getElem hj]at h;exact List.any_eq_true.2 ⟨_,getElem_mem hj,h⟩
def Rb(b:Bool)(e:Ending):Prop:=∃ k:Int,e=.returned (.int .i64 k)/\-1<=k/\k<=100000/\decide (0<=k)=b
theorem BS(v:Value)(L:List Int)(x:Int)(w:World)(hlen:L.length<=100000)(hv:U.av w v L):
  Calls prog 368 #[v,.int .i32 x] w fun e W'=>Rb (L.any fun r=>decide (r=x)) e/\Below w.heap.size w W':=by
 obtain⟨a,c,rfl,hf⟩:=aM hv;have HF:=hid hf;have HNO:=hid (lF (p:=fun r=>decide (r=x)) (L:=L));have HYES:=hid (ta (p:=fun r=>decide (r=x)) (L:=L));obtain⟨n,hn⟩:=Ex' L.length;rw[hn]at hlen HF HNO HYES ⊢;obtain⟨R,hR⟩:=Ex' ((L.any fun r=>decide (r=x)));rw[hR]at HNO HYES ⊢;clear hv hf hn hR;go_enter func368,ntmps368;go_wp2_with fail
 go_loopw [8] (fun v8 wr=>∃ k:Nat,k<=n/\v8=.int .i64 k/\Hid (∀ j,j<k->decide (L[j]?.getD 0=x)=false)/\Hid (Below w.heap.size w wr)) (fun v8 _=>n - (intOf v8).toNat)
 case atStart=>exact⟨0,zero_le _,rfl,(fun j hj=>by omega),Below.refl _ _⟩
 case round =>
  obtain⟨k,hk,rfl,HA,HB⟩:=hrel;by_cases hlt:k<n
  ·obtain⟨b,off,rfl,hck⟩:=ji HF.out HB.out k hlt;have HX:=hid (HYES.out k hlt)
   have HS:Hid (decide (L[k]?.getD 0=x)=false->∀ j,j<k+1->decide (L[j]?.getD 0=x)=false):=fun h j hj=>by
    by_cases e:j=k
    ·rw[e];exact h
    ·exact HA.out j (by omega)
   obtain⟨y,hy⟩:=Ex' (L[k]?.getD 0);rw[hy]at hck HX HS;clear hy;by_cases hq:x=y
   ·subst hq;have HR:=hid (HX.out (decide_eq_true rfl));go_wp2;go_ret;exact⟨⟨k,rfl,by omega,by omega,by rw[HR.out];exact decide_eq_true (by omega)⟩,HB.out⟩
   ·have hq1:(x==y)=false:=by simpa using hq
    have HR:=hid (HS.out (decide_eq_false (fun h=>hq h.symm)));go_wp2
    go_roundw
    case rel=>exact⟨k+1,by omega,by go_num,HR,HB⟩
    case measure=>simp[intOf];omega
  ·have HR:=hid (HNO.out (fun j hj=>HA.out j (by omega)));go_wp2;go_ret;exact⟨⟨-1,rfl,by omega,by omega,by rw[HR.out];rfl⟩,HB.out⟩
theorem bS(v:Value)(L:List Int)(x:Int)(w:World)(hlen:L.length<=100000)(hv:U.av w v L):
  Calls prog 342 #[v,.int .i32 x] w fun e W'=>e=.returned (.bool (L.any fun r=>decide (r=x)))/\Below w.heap.size w W':=by
 have HC:=hid (BS v L x w hlen hv);obtain⟨a,c,rfl,-⟩:=aM hv;obtain⟨n,hn⟩:=Ex' L.length;rw[hn]at HC ⊢;clear hv hn;go_enter func342,ntmps342;go_wp2_with fail;refine HC.out.mono ?_;rintro e w1 ⟨⟨k,rfl,h1,h2,h3⟩,B1⟩;have H3:=hid h3;clear h3;go_wp2;go_ret;exact⟨by rw[<-H3.out];rfl,B1⟩
theorem DU(r:Int)(w:World):Calls prog 284 #[.int .i32 r] w fun e W'=>e=.returned (.int .u8 (sts r))/\Below w.heap.size w W':=D.ny r w
theorem PK(r:Int)(w:World):Calls prog 344 #[.int .i32 r] w fun e W'=>e=.returned (.bool (mrk r))/\Below w.heap.size w W':=D.Ge r w
theorem sb(r:Int)(w:World):
  Calls prog 346 #[.int .i32 r] w fun e W'=>e=.returned (.bool (eS r))/\Below w.heap.size w W':=by
 have HC:=hid (DU r w);have HN:Hid (eS r=(decide (sts r≠1)&&decide (sts r≠4))):=rfl;obtain⟨s,hs⟩:=Ex' (sts r);obtain⟨R,hR⟩:=Ex' (eS r);rw[hs]at HC HN;rw[hR]at HN ⊢;clear hs hR;go_enter func346,ntmps346;go_wp2_with fail;refine HC.out.mono ?_;rintro e w1 ⟨rfl,B1⟩;go_wp2;all_goals (go_ret;refine⟨?_,B1⟩;rw[HN.out];first | (simp_all;done) | (simp_all;rw[Bool.eq_iff_iff];simp;done) | (simp_all;rw[Bool.eq_iff_iff];simp;intros;omega))
theorem fQ(v:Value)(L:List Int)(w:World)(hlen:L.length<=100000)(hv:U.av w v L):
  Calls prog 319 #[v,.func (.func 346) #[] #[]] w fun e W'=>Rb (L.any eS) e/\Below w.heap.size w W':=by
 obtain⟨a,c,rfl,hf⟩:=aM hv;have HF:=hid hf;have HNO:=hid (lF (p:=eS) (L:=L));have HYES:=hid (ta (p:=eS) (L:=L));obtain⟨n,hn⟩:=Ex' L.length;rw[hn]at hlen HF HNO HYES ⊢;obtain⟨R,hR⟩:=Ex' (L.any eS);rw[hR]at HNO HYES ⊢;clear hv hf hn hR;go_enter func319,ntmps319;go_wp2_with fail
 go_loopw [8] (fun v8 wr=>∃ k:Nat,k<=n/\v8=.int .i64 k/\Hid (∀ j,j<k->eS (L[j]?.getD 0)=false)/\Hid (Below w.heap.size w wr)) (fun v8 _=>n - (intOf v8).toNat)
 case atStart=>exact⟨0,zero_le _,rfl,(fun j hj=>by omega),Below.refl _ _⟩
 case round =>
  obtain⟨k,hk,rfl,HA,HB⟩:=hrel;by_cases hlt:k<n
  ·obtain⟨b,off,rfl,hck⟩:=ji HF.out HB.out k hlt;have HX:=hid (HYES.out k hlt)
   have HS:Hid (eS (L[k]?.getD 0)=false->∀ j,j<k+1->eS (L[j]?.getD 0)=false):=fun h j hj=>by
    by_cases e:j=k
    ·rw[e];exact h
    ·exact HA.out j (by omega)
   have HC:=hid (sb (L[k]?.getD 0) wr);obtain⟨t,ht⟩:=Ex' (eS (L[k]?.getD 0));rw[ht]at HX HS HC;obtain⟨y,hy⟩:=Ex' (L[k]?.getD 0);rw[hy]at hck HC;clear hy ht;cases t with
   | true =>
    have HR:=hid (HX.out rfl);go_wp2_with(go_at_call 346;refine HC.out.mono ?_;rintro e w1 ⟨rfl,B1⟩);go_ret;exact⟨⟨k,rfl,by omega,by omega,by rw[HR.out];exact decide_eq_true (by omega)⟩,HB.out.trans (B1.mono HB.out.size)⟩
   | false =>
    have HR:=hid (HS.out rfl);go_wp2_with(go_at_call 346;refine HC.out.mono ?_;rintro e w1 ⟨rfl,B1⟩)
    go_roundw
    case rel=>exact⟨k+1,by omega,by go_num,HR,HB.out.trans (B1.mono HB.out.size)⟩
    case measure=>simp[intOf];omega
  ·have HR:=hid (HNO.out (fun j hj=>HA.out j (by omega)));go_wp2;go_ret;exact⟨⟨-1,rfl,by omega,by omega,by rw[HR.out];rfl⟩,HB.out⟩
theorem dK(v:Value)(L:List Int)(w:World)(hlen:L.length<=100000)(hv:U.av w v L):
  Calls prog 300 #[v,.func (.func 346) #[] #[]] w fun e W'=>e=.returned (.bool (L.any eS))/\Below w.heap.size w W':=by
 have HC:=hid (fQ v L w hlen hv);obtain⟨a,c,rfl,-⟩:=aM hv;obtain⟨n,hn⟩:=Ex' L.length;rw[hn]at HC ⊢;clear hv hn;go_enter func300,ntmps300;go_wp2_with fail;refine HC.out.mono ?_;rintro e w1 ⟨⟨k,rfl,h1,h2,h3⟩,B1⟩;have H3:=hid h3;clear h3;go_wp2;go_ret;exact⟨by rw[<-H3.out];rfl,B1⟩
theorem Pb(B:Nat)(v:Value)(L:List Int)(w:World)(hlen:L.length<=10000)(hb:Boxed w B 43 v)(hv:N.bU w v L):
  Calls prog 336 #[.pointer (some ⟨B,0,none⟩)] w fun e W'=>e=.returned (.bool (!decide (N.dA L=L)))/\Below w.heap.size w W':=by
 have HC:=hid (N.PV v L w hlen hv);obtain⟨a,c,rfl,-⟩:=hv;have hc:=hb.cell;obtain⟨R,hR⟩:=Ex' (decide (N.dA L=L));rw[hR]at HC ⊢;obtain⟨n,hn⟩:=Ex' L.length;rw[hn]at HC hc;clear hR hn hb;go_enter func336,ntmps336;go_wp2_with fail;refine HC.out.mono ?_;rintro e w1 ⟨rfl,B1⟩;go_wp2;go_ret;exact⟨rfl,B1⟩
theorem OZ(B Bh:Nat)(v:Value)(hy:Bool)(L:List Int)(w:World)(hlen:L.length<=10000)(hb:Boxed w B 43 v)(hh:Boxed w Bh 4 (.bool hy))(hv:U.av w v L):
  Calls prog 338 #[.pointer (some ⟨Bh,0,none⟩),.pointer (some ⟨B,0,none⟩)] w fun e W'=>e=.returned (.bool (hy&&decide (4<=L.length)&&decide (L[2]?.getD 0=45)&&decide (L[3]?.getD 0=45)))/\Below w.heap.size w W':=by
 obtain⟨a,c,rfl,hf⟩:=aM hv;have hc:=hb.cell;have hch:=hh.cell;have HF:=hid hf;obtain⟨x,hx⟩:=Ex' (L[2]?.getD 0);obtain⟨y,hyy⟩:=Ex' (L[3]?.getD 0);rw[hx,hyy];by_cases h4:4<=L.length
 ·obtain⟨b,off,rfl,hcc⟩:=HF.out (by omega);have h2:=hcc 2 (by omega);have h3:=hcc 3 (by omega);rw[hx]at h2;rw[hyy]at h3;rw[decide_eq_true h4];obtain⟨n,hn⟩:=Ex' L.length;rw[hn]at hc h4 hlen;have h4z:(4:Int)<=(n:Int):=by omega
  clear hx hyy hn hb hh hv hf HF hcc;cases hy
  ·go_enter func338,ntmps338;go_wp2;go_ret;exact⟨rfl,Below.refl _ _⟩
  ·go_enter func338,ntmps338;go_wp2;all_goals (go_ret;refine⟨?_,Below.refl _ _⟩;first | (simp_all;done) | (simp_all;rw[Bool.eq_iff_iff];simp;done) | (simp_all;rw[Bool.eq_iff_iff];simp;intros;omega))
 ·rw[decide_eq_false h4];obtain⟨n,hn⟩:=Ex' L.length;rw[hn]at hc h4 hlen;have h4z:¬ (4:Int)<=(n:Int):=by omega
  clear hx hyy hn hb hh hv hf HF;cases hy
  ·go_enter func338,ntmps338;go_wp2;go_ret;exact⟨rfl,Below.refl _ _⟩
  ·go_enter func338,ntmps338;go_wp2;go_ret;exact⟨rfl,Below.refl _ _⟩
theorem OY(Bh Bf Bz:Nat)(hy:Bool)(x y:Int)(w:World)(hh:Boxed w Bh 4 (.bool hy))(hf:Boxed w Bf 21 (.int .i32 x))(hz:Boxed w Bz 21 (.int .i32 y)):
  Calls prog 339 #[.pointer (some ⟨Bh,0,none⟩),.pointer (some ⟨Bf,0,none⟩),.pointer (some ⟨Bz,0,none⟩)] w fun e W'=>e=.returned (.bool (hy&&(decide (x=45)||decide (y=45))))/\Below w.heap.size w W':=by
 have hch:=hh.cell;have hcf:=hf.cell;have hcz:=hz.cell;clear hh hf hz;cases hy
 ·go_enter func339,ntmps339;go_wp2;go_ret;exact⟨rfl,Below.refl _ _⟩
 ·go_enter func339,ntmps339;go_wp2;all_goals (go_ret;refine⟨?_,Below.refl _ _⟩;first | (simp_all;done) | (simp_all;rw[Bool.eq_iff_iff];simp;done) | (simp_all;rw[Bool.eq_iff_iff];simp;intros;omega))
theorem OW(B:Nat)(v:Value)(L:List Int)(w:World)(hlen:L.length<=10000)(hb:Boxed w B 43 v)(hv:U.av w v L):
  Calls prog 341 #[.pointer (some ⟨B,0,none⟩)] w fun e W'=>e=.returned (.bool (L.any fun r=>decide (r=46)))/\Below w.heap.size w W':=by
 have HC:=hid (bS v L 46 w (by omega) hv);obtain⟨a,c,rfl,-⟩:=aM hv;have hc:=hb.cell;obtain⟨R,hR⟩:=Ex' ((L.any fun r=>decide (r=46)));rw[hR]at HC ⊢;obtain⟨n,hn⟩:=Ex' L.length;rw[hn]at HC hc;clear hR hn hb hv;go_enter func341,ntmps341;go_wp2_with fail;refine HC.out.mono ?_;rintro e w1 ⟨rfl,B1⟩;go_wp2;go_ret;exact⟨rfl,B1⟩
theorem OV(B:Nat)(x:Int)(w:World)(hb:Boxed w B 21 (.int .i32 x)):
  Calls prog 343 #[.pointer (some ⟨B,0,none⟩)] w fun e W'=>e=.returned (.bool (mrk x))/\Below w.heap.size w W':=by
 have HC:=hid (PK x w);have hc:=hb.cell;clear hb;go_enter func343,ntmps343;go_wp2_with fail;refine HC.out.mono ?_;rintro e w1 ⟨rfl,B1⟩;go_wp2;go_ret;exact⟨rfl,B1⟩
theorem OU(B:Nat)(v:Value)(L:List Int)(w:World)(hlen:L.length<=10000)(hb:Boxed w B 43 v)(hv:U.av w v L):
  Calls prog 345 #[.pointer (some ⟨B,0,none⟩)] w fun e W'=>e=.returned (.bool (L.any eS))/\Below w.heap.size w W':=by
 have HC:=hid (dK v L w (by omega) hv);obtain⟨a,c,rfl,-⟩:=aM hv;have hc:=hb.cell;obtain⟨R,hR⟩:=Ex' (L.any eS);rw[hR]at HC ⊢;obtain⟨n,hn⟩:=Ex' L.length;rw[hn]at HC hc;clear hR hn hb hv;go_enter func345,ntmps345;go_wp2_with fail;refine HC.out.mono ?_;rintro e w1 ⟨rfl,B1⟩;go_wp2;go_ret;exact⟨rfl,B1⟩
theorem OT(B:Nat)(v:Value)(L:List Int)(w:World)(hlen:L.length<=10000)(hb:Boxed w B 43 v)(hv:U.av w v L):
  Calls prog 347 #[.pointer (some ⟨B,0,none⟩)] w fun e W'=>e=.returned (.bool (!jok L))/\Below w.heap.size w W':=by
 have HC:=hid (BP v L w (by omega) hv);obtain⟨a,c,rfl,-⟩:=aM hv;have hc:=hb.cell;obtain⟨R,hR⟩:=Ex' (jok L);rw[hR]at HC ⊢;obtain⟨n,hn⟩:=Ex' L.length;rw[hn]at HC hc;clear hR hn hb hv;go_enter func347,ntmps347;go_wp2_with fail;refine HC.out.mono ?_;rintro e w1 ⟨rfl,B1⟩;go_wp2;go_ret;exact⟨rfl,B1⟩
section
variable (x0 x1 x2 x3 x4 x5 x6 x7 x8 x10 : Int) (x9 : Bool) (W : World)
end
end L
namespace D
open Go.RowKit Go.Lib Go.Sort Go.Shelf
end D
namespace N
theorem nU{W:World}{a b:Nat}{v:Value}{n:Nat}{X:List Value}(h:W.ownsRow b 21 1 v n X)(hab:a<=b):W.ownsRow a 21 1 v n X:=by
 rcases h with⟨h1,⟨rfl,h2⟩ | ⟨g,cap,cur,rfl,hbg,h3⟩⟩
 ·exact⟨h1,.inl ⟨rfl,h2⟩⟩
 ·exact⟨h1,.inr ⟨g,cap,cur,rfl,by omega,h3⟩⟩
end N
namespace I
theorem hid{p:Prop}(h:p):Hid p:=h
theorem bY{base n:Nat}{v:Value}{X:List Value}{W:World}(h:W.ownsRow base 21 1 v n X):∃ a cap,v=.slice a n cap:=by
 rcases h.2 with⟨rfl,h0⟩ | ⟨g,cap,cur,rfl,_⟩
 ·exact⟨none,0,by rw[h0]⟩
 ·exact⟨_,cap,rfl⟩
theorem ND{W:World}{v:Value}{zs:List Int}(h:D.av W v zs):U.mL W v zs:=by
 obtain⟨a,cap,rfl,⟨h1,h2⟩,h3⟩:=h;cases a with
 | none =>
  have h0:zs.length=0:=Nat.eq_zero_of_not_pos (fun hp=>by obtain⟨b,e,_⟩:=h3 hp;cases e);have e1:=h1 rfl;exact .inl ⟨by rw[h0,e1],List.length_eq_zero_iff.1 h0⟩
 | some ad =>
  refine .inr ⟨ad,cap,rfl,fun j hj=>?_⟩;obtain⟨b,e,hg⟩:=h3 (by omega);cases e;rw[U.gx];simp[World.cell?,hg,getElem?_eq_getElem hj]
theorem Ga(l:List Int)(k:Nat)(hk:k<l.length):(l.take (k+1)).flatMap mpx=(l.take k).flatMap mpx++mpx (l[k]?.getD 0):=by rw[L.take_one l k hk,List.flatMap_append];simp
theorem Ls(r:Int):(mpx r).length<=8:=by
 by_cases h:L.sts r=0
 ·unfold mpx;rw[if_pos h];simp
 ·unfold mpx D.mp;rw[if_neg h];split
  ·simp
  ·split
   ·unfold D.mpd;split
    ·simp
    ·unfold D.inst;cases h:D.lX.lookup r with
     | none=>simp
     | some v =>
      have:∀ p∈D.lX,p.2.length<=8:=by decide
      exact this _ (D.eV h)
   ·simp
end I
namespace L
end L
namespace I
def El(W:World)(u:Value)(l:List Int):Prop:=N.bU W u l/\∀ a n c,u=.slice a n c->n<=c/\(a=none->c=0)
theorem El.below{W W':World}{u:Value}{l:List Int}(h:El W u l)(hb:Below W.heap.size W W'):El W' u l:=⟨h.1.below hb,h.2⟩
theorem El.ints{W:World}{u:Value}{l:List Int}(h:El W u l):U.av W u l:=N.wI h.1
theorem El.own{W:World}{base n:Nat}{v:Value}{zs:List Int}(hn:n=zs.length)(h:W.ownsRow base 21 1 v n (zs.map (Value.int .i32))):El W v zs:=by
 refine⟨N.bU.of_own hn h,?_⟩;rcases h.2 with⟨rfl,h0⟩ | ⟨g,cap,cur,rfl,_,_,hnc,_⟩
 ·rintro a n c e;cases e;exact⟨le_refl _,fun _=>rfl⟩
 ·rintro a n c e;cases e;exact⟨hnc,fun h=>by cases h⟩
theorem Ka(W:World):(sizeOf (prog.elem 43)).run prog W=.ok 1 W:=by kernel_rfl
theorem RS{l:List Int}{hy:Bool}(h:L.dE l=false):one l hy=(l,L.flt l hy):=by unfold one;rw[if_pos h]
theorem El.nil(W:World):El W (.slice none 0 0) []:=⟨⟨none,0,rfl,fun hp=>absurd hp (by simp)⟩,fun a n c e=>by cases e;exact⟨le_refl _,fun _=>rfl⟩⟩
theorem Ik{l:List Int}{W:World}{base:Nat}{v:Value}{e:Int}(h:P.yz l W base v e):El W v (P.ig l).1:=by
 unfold P.ig;rcases h with⟨h1,rfl,rfl⟩ | ⟨h1,h2,rfl,rfl⟩ | ⟨h1,h2,pts,h3,rfl,h4⟩
 ·rw[if_pos h1];exact El.nil W
 ·rw[if_neg (by omega)];split
  ·exact El.nil W
  ·rename_i h3;rcases h2 with h2 | h2
   ·exact absurd h2 h3
   ·rw[h2];exact El.nil W
 ·rw[if_neg (by omega),if_neg (by rw[h2];exact Bool.noConfusion),h3];exact El.own rfl h4
def CI(l:List Int)(hy:Bool)(w:World)(e:Ending)(W':World):Prop:=∃ u,e=.returned (.tuple #[u,.int .u16 (one l hy).2])/\El W' u (one l hy).1/\Below w.heap.size w W'
end I
end Go.Proofs.YtlmflmdmolcfhaaGreatDoor
