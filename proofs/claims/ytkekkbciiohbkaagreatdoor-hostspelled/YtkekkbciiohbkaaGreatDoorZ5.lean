/- Texts one behind the other: HA VI VJ. -/
import Derived.Test.YtkekkbciiohbkaaGreatDoorZ4
import Derived.Test.YtkekkbciiohbkaaGreatDoorZ3
import Derived.Test.YtkekkbciiohbkaaGreatDoorChecked
import Derived.Laws.Runes
import Derived.Laws.RangeString
import Derived.Deep.LoopGhost
import Derived.BigQuiet
import Derived.WalkMore
import Derived.Shelf.Lay
import Derived.Shelf.Strings.Prefix
import Derived.Shelf.Strings.IndexAnyAll
import Derived.Shelf.Pu.Clone
import Derived.Ground.NamesProg
import Derived.Ground.MpProg
import Derived.Laws.RangeAny
import Derived.Lib.OthersKept
import Derived.Lib.MapLaws
set_option maxRecDepth 100000
set_option maxHeartbeats 16000000
set_option linter.unusedVariables false
set_option linter.unnecessarySimpa false
namespace Go.Proofs.YtkekkbciiohbkaaGreatDoor.E
open Go.RowKit
theorem zB(s:ByteArray)(c:Int)(w:World):Calls Tryz.prog 195 #[.string s,.int .u8 c] w fun e W'=>e=.returned (.int .i64 (firstIdx s c.toNat.toUInt8))∧W'=w:=by
 go_enter Tryz.func195,Tryz.ntmps195
 go_wp2;rw[run_callFunc_extern Tryz.func233 (by kernel_rfl) (by kernel_rfl) (by kernel_rfl) (e:=Extern.BytealgIndexByte.indexByte) (by kernel_rfl),run_indexByte_string];simp only[Result.andThen];rw[Oper.upon_value];go_wp2;go_ret;exact⟨rfl,rfl⟩
theorem iL(s:ByteArray)(c:Int)(w:World):Calls Tryz.prog 176 #[.string s,.int .u8 c] w fun e W'=>e=.returned (.int .i64 (firstIdx s c.toNat.toUInt8))∧W'=w:=by
 go_enter Tryz.func176,Tryz.ntmps176
 go_wp2_with(go_at_call 195;refine(zB _ _ _).mono ?_;rintro e w' ⟨rfl,rfl⟩)
 go_ret;exact⟨rfl,rfl⟩
theorem nw(r:Int)(h:U.az r=true)(w:World):Calls Tryz.prog 177 #[.int .i32 r] w fun e W'=>e=.returned (.bool true)∧W'=w:=by
 have h':(0≤r∧r≤1114111)∧¬ (55296≤r∧r≤57343):=by
  unfold U.az at h
  have:=of_decide_eq_true h;omega
 clear h;obtain⟨⟨h0,h1⟩,h2⟩:=h';by_cases h3:r<55296
 ·clear h2
  go_enter Tryz.func177,Tryz.ntmps177
  go_wp2;go_ret;exact⟨rfl,rfl⟩
 ·have h4:57343<r:=by omega
  clear h2;go_enter Tryz.func177,Tryz.ntmps177
  go_wp2;go_ret;exact⟨rfl,rfl⟩
def Asc(t:ByteArray):Prop:=∀ b∈t.data.toList,b.toNat<128
theorem lT(t:ByteArray)(r:Int)(h0:0≤r)(h1:r<128)(w:World):Calls Tryz.prog 124 #[.string t,.int .i32 r] w fun e W'=>e=.returned (.int .i64 (firstIdx t r.toNat.toUInt8))∧W'=w:=by
 have hw:IntKind.u8.wrap r=r:=by rw[IntKind.wrap_u8];omega
 go_enter Tryz.func124,Tryz.ntmps124
 go_wp2_with(go_at_call 176;refine(iL _ _ _).mono ?_;rintro e w' ⟨rfl,rfl⟩)
 go_ret;exact⟨rfl,rfl⟩
theorem nT(t:ByteArray)(ha:Asc t)(hz:t.size≤1000)(w:World):Calls Tryz.prog 124 #[.string t,.int .i32 65533] w fun e W'=>e=.returned (.int .i64 (-1))∧Below w.heap.size w W':=by
 have HA:=hid ha;clear ha;go_enter Tryz.func124,Tryz.ntmps124
 go_wp2_with fail
 go_loopg [5,6] t.size (fun g _ _ wx=>∃ i:Nat,i+g=t.size∧wx=w.iter t i)
 case atStart=>exact⟨0,by omega,rfl⟩
 case round =>
  obtain⟨i,hig,rfl⟩:=hrel;cases gk with
  | zero =>
   obtain rfl:i=t.size:=by omega
   have hnx:=run_next_end (P:=Tryz.prog) w t t.size;go_wp2;go_ret;exact⟨rfl,Below.alloc (Below.refl _ _) (Nat.le_refl _) _⟩
  | succ g =>
   have hi:i<t.size:=by omega
   have hx:(t[i]'hi).toNat<128:=HA.out _ (Array.getElem_mem_toList (xs:=t.data) hi);have hnx:=fun ty=>run_next_ascii (P:=Tryz.prog) w t i ty hi hx
   obtain⟨x,hxe⟩:∃ x:Nat,(t[i]'hi).toNat=x:=⟨_,rfl⟩;rw[hxe]at hx hnx;clear hxe;have hne:((x:Int)==65533)=false:=by simp;omega
   go_wp2
   go_roundg g
   case rel=>exact⟨i+1,by omega,rfl⟩
   case measure=>omega
theorem nU(t:ByteArray)(ha:Asc t)(hz:t.size≤1000)(r:Int)(hr:U.az r=true)(h1:128≤r)(h2:r≠65533)(w:World):Calls Tryz.prog 124 #[.string t,.int .i32 r] w fun e W'=>e=.returned (.int .i64 (-1))∧Below w.heap.size w W':=by
 have h2b:(r==65533)=false:=by simpa using h2
 have HVR:=hid (fun W=>nw r hr W)
 have hv:Utf8.valid r=true:=by
  rw[validRune_eq];unfold U.az at hr
  have:=of_decide_eq_true hr;unfold validRune;exact decide_eq_true (by omega)
 obtain⟨f1,f2,f3⟩:=encode_facts r hv h1;have hr1:=bu hr;obtain⟨hr0,hr2⟩:=hr1;have HFI:Hid (∀(a:Nat) (c:UInt8),128≤c.toNat→firstIdx (t.extract a t.size) c=-1):=fun a c hc=>firstIdx_ascii t a t.size c ha hc
 have HA:=hid ha;clear h2 hr hv ha;obtain⟨E,hE⟩:∃ E,Utf8.encode r=E:=⟨_,rfl⟩;rw[hE]at f1 f2 f3;have hl:E.size - 1<E.size:=by omega
 have f4:=f3 hl;obtain⟨c,hc⟩:∃ c:UInt8,E[E.size - 1]'hl=c:=⟨_,rfl⟩;rw[hc]at f4;obtain⟨m,hm⟩:∃ m:Nat,E.size=m+1:=⟨E.size - 1,by omega⟩
 have hi1:∀ h:m<E.size,E[m]'h=c:=fun h=>by
  have:E.size - 1=m:=by omega
  simp only[this]at hc;exact hc
 have hmz:(E.size:Int) - 1=(m:Int):=by omega
 clear f3 hl hc;by_cases hlt:m<t.size
 ·have hx:(t[m]'hlt).toNat<128:=HA.out _ (Array.getElem_mem_toList (xs:=t.data) hlt)
  go_enter Tryz.func124,Tryz.ntmps124
  go_wp2_with(go_at_call 177;refine(HVR.out _).mono ?_;rintro e w' ⟨rfl,hw1⟩;obtain rfl:=hw1.symm)
  go_step3
  go_wp2_with fail
  go_loopw [9] (fun v9 wr=>v9=.int .i64 m∧wr=w) (fun _ _=>0)
  case atStart=>exact⟨rfl,rfl⟩
  case round =>
   obtain⟨rfl,rfl⟩:=hrel;have hfi:=HFI.out (m+1) c f4;obtain⟨x,hxe⟩:∃ x:Nat,(t[m]'hlt).toNat=x:=⟨_,rfl⟩;obtain⟨y,hye⟩:∃ y:Nat,c.toNat=y:=⟨_,rfl⟩;have hyc:((y:Int)).toNat.toUInt8=c:=by rw[←hye];simp
   rw[hxe]at hx;rw[hye]at f4;have hne:((x:Int) != (y:Int))=true:=by simp;omega
   have hIB:Hid (∀ W,Calls Tryz.prog 176 #[.string (t.extract (m+1) t.size),.int .u8 y] W fun e W'=>e=.returned (.int .i64 (-1))∧W'=W):=fun W=>(iL _ _ W).mono (by rintro e W' ⟨rfl,h⟩;rw[hyc,hfi];exact⟨rfl,h⟩)
   have hlz:(m:Int)+1≤(t.size:Int):=by omega
   have hw1:IntKind.i64.wrap ((m:Int)+1)=(m:Int)+1:=wrap_small _ (by omega) (by omega)
   go_wp2_with fail
   go_step3
   go_wp2_with fail
   go_quiet (fail)
   go_wp2_with fail;have hen:=enters_of Tryz.func176 (by kernel_rfl) rfl;refine bP 8 (by kernel_rfl) (by kernel_rfl) ?_;simp only[List.take_succ_cons,List.take_zero,List.drop_succ_cons,List.drop_zero];refine ai (.string t) rfl (fun W=>by go_simp) ?_;refine ai (.int .i64 m) rfl (fun W=>by go_simp) ?_;refine ai (.int .i64 ((m:Int)+1)) rfl (fun W=>by go_simp) ?_;refine ai (.string (t.extract (m+1) t.size)) rfl (fun W=>by go_simp;intro h;omega) ?_;refine ai (.string E) rfl (fun W=>by go_simp) ?_;refine ai (.int .i64 m) rfl (fun W=>by go_simp) ?_;refine ai (.int .u8 y) rfl (fun W=>by go_simp;intro h;omega) ?_;refine gv (.int .i64 (-1)) rfl (f:=176) (args:=#[.string (t.extract (m+1) t.size),.int .u8 y]) (fun W=>by go_simp) hIB.out ?_;refine c9 ?_;show wpList _ _ _ _ _ (World.drewN _ _).drew
   go_wp2_with fail;refine⟨rfl,?_⟩;go_wp2;show bodyPost Tryz.prog Tryz.f124 (fun e W'=>e=.returned (.int .i64 (-1))∧Below wr.heap.size wr W') Exit.ret _ _
   go_ret;exact⟨rfl,(fun h=>⟨h.os,h.tape,h.output,h.size,h.block⟩) (Below.refl wr.heap.size wr)⟩
 ·go_enter Tryz.func124,Tryz.ntmps124
  go_wp2_with(go_at_call 177;refine(HVR.out _).mono ?_;rintro e w' ⟨rfl,hw1⟩;obtain rfl:=hw1.symm)
  go_step3
  go_wp2_with fail
  go_loopw [9] (fun v9 wr=>v9=.int .i64 m∧wr=w) (fun _ _=>0)
  case atStart=>exact⟨rfl,rfl⟩
  case round =>
   obtain⟨rfl,rfl⟩:=hrel;go_wp2;rw[Exit.noGoto_ret];go_ret;exact⟨rfl,Below.refl _ _⟩
theorem kc(t:ByteArray)(r:Int)(h0:0≤r)(h1:r<128):decide (0≤firstIdx t r.toNat.toUInt8)=(U.bn t).contains r:=by
 rw[firstIdx_nonneg];have hr:(r.toNat.toUInt8.toNat:Int)=r:=by simp;omega
 rw[Bool.eq_iff_iff,List.any_eq_true,List.contains_iff_mem];unfold U.bn;rw[List.mem_map]
 constructor
 ·rintro⟨b,hb,he⟩
  have:=eq_of_beq he;exact⟨b,hb,by rw[this];exact hr⟩
 ·rintro⟨b,hb,he⟩
  refine⟨b,hb,beq_iff_eq.2 ?_⟩;apply UInt8.toNat_inj.1;omega
theorem zU{t:ByteArray}(ha:Asc t){r:Int}(h1:128≤r):(U.bn t).contains r=false:=by
 rw[Bool.eq_false_iff];intro hc
 have hm:=List.contains_iff_mem.1 hc;unfold U.bn at hm
 obtain⟨b,hb,he⟩:=List.mem_map.1 hm;have:=ha b hb;omega
theorem bT(t:ByteArray)(ha:Asc t)(hz:t.size≤1000)(r:Int)(hr:U.az r=true)(w:World):Calls Tryz.prog 118 #[.string t,.int .i32 r] w fun e W'=>e=.returned (.bool ((U.bn t).contains r))∧Below w.heap.size w W':=by
 have HC:Hid (∃ i:Int,decide (0≤i)=(U.bn t).contains r∧∀ W,Calls Tryz.prog 124 #[.string t,.int .i32 r] W fun e W'=>e=.returned (.int .i64 i)∧Below W.heap.size W W'):=by
  have hb:=bu hr;by_cases h1:r<128
  ·exact⟨_,kc t r hb.1 h1,fun W=>(lT t r hb.1 h1 W).mono (by rintro e W' ⟨rfl,rfl⟩;exact⟨rfl,Below.refl _ _⟩)⟩
  ·refine⟨-1,?_,fun W=>?_⟩
   ·rw[zU ha (by omega)];rfl
   ·by_cases h2:r=65533
    ·subst h2;exact nT t ha hz W
    ·exact nU t ha hz r hr (by omega) h2 W
 obtain⟨i,hi,hc⟩:=HC.out;rw[←hi];have HI:=hid hc;clear HC hi hc hr ha;go_enter Tryz.func118,Tryz.ntmps118
 go_wp2_with(go_at_call 124;refine(HI.out _).mono ?_;rintro e w' ⟨rfl,B⟩)
 go_ret;exact⟨rfl,B⟩
end Go.Proofs.YtkekkbciiohbkaaGreatDoor.E
namespace Go.Proofs
open Go.Shelf Go.RowKit
shelf_lay Lays.n206 Nm 206 at Tryz as Tryz.laysPre
shelf_lay Lays.n207 Nm 207 at Tryz as Tryz.laysSuf
shelf_lay Lays.n153 Nm 153 at Tryz as Tryz.laysAny
shelf_lay LaysPu.n25 Mp 25 at Tryz as Tryz.laysClo
end Go.Proofs
namespace Go.Proofs.YtkekkbciiohbkaaGreatDoor.H
open Go.RowKit
open Go.Proofs.YtkekkbciiohbkaaGreatDoor.F (bn aa av aq ar hid aj ab ah aR aK)
theorem Fu(s:ByteArray):Lib.hasPrefix s.data.toList [91]=decide ((bn s).head? = some 91):=by
 unfold bn Lib.hasPrefix;cases s.data.toList with
 | nil=>rfl
 | cons c l =>
  have h:((91:UInt8)==c)=decide ((c.toNat:Int)=91):=by
   rw[Bool.eq_iff_iff,beq_iff_eq,decide_eq_true_iff]
   constructor
   ·rintro rfl;rfl
   ·intro h;apply UInt8.toNat_inj.1;show 91=_;omega
  simp[List.isPrefixOf,h]
theorem Fb(s:ByteArray):Lib.hasSuffix s.data.toList [93]=decide ((bn s).getLast? = some 93):=by
 have h:Lib.hasSuffix s.data.toList [93]=([93]:List UInt8).isSuffixOf s.data.toList:=rfl;rw[h,List.isSuffixOf];unfold bn;rw[List.getLast?_map,←List.head?_reverse];show([93]:List UInt8).isPrefixOf _=_
 cases s.data.toList.reverse with
 | nil=>rfl
 | cons c l =>
  have h:((93:UInt8)==c)=decide ((c.toNat:Int)=93):=by
   rw[Bool.eq_iff_iff,beq_iff_eq,decide_eq_true_iff]
   constructor
   ·rintro rfl;rfl
   ·intro h;apply UInt8.toNat_inj.1;show 93=_;omega
  simp[List.isPrefixOf,h]
theorem Cn(s:ByteArray)(w:World):Calls Tryz.prog 60 #[.string s,.string ⟨#[91]⟩] w fun e W'=>e=.returned (.bool (decide ((bn s).head? = some 91)))∧W'=w:=by
 have hf:Tryz.laysPre_ren.f 206=60:=by kernel_rfl
 have h:=Any.stringslite_HasPrefix Tryz.laysPre s ⟨#[91]⟩ w;rw[hf]at h;rw[←Fu];exact h
theorem BF(s:ByteArray)(hs:s.size≤100000)(w:World):Calls Tryz.prog 100 #[.string s,.string ⟨#[93]⟩] w fun e W'=>e=.returned (.bool (decide ((bn s).getLast? = some 93)))∧W'=w:=by
 have hf:Tryz.laysSuf_ren.f 207=100:=by kernel_rfl
 have h:=Any.stringslite_HasSuffix Tryz.laysSuf s ⟨#[93]⟩ w (by omega);rw[hf]at h;rw[←Fb];exact h
def tG(s:ByteArray)(e:Ending):Prop:=((bn s).head? = some 91∧e=.returned (.tuple #[.string (s.extract 1 s.size),.bool true]))∨((bn s).head? ≠ some 91∧e=.returned (.tuple #[.string s,.bool false]))
theorem Az(s:ByteArray)(w:World):Calls Tryz.prog 19 #[.string s,.string ⟨#[91]⟩] w fun e W'=>tG s e∧W'=w:=by
 have HP:=hid (fun W=>Cn s W);by_cases h:(bn s).head? = some 91
 ·have HR:Hid (tG s (.returned (.tuple #[.string (s.extract 1 s.size),.bool true]))):=.inl ⟨h,rfl⟩
  have hsz:1≤s.size:=by
   rw[←aa];cases hb:bn s with
   | nil=>rw[hb]at h;cases h
   | cons _ _=>simp
  have hzz:(1:Int)≤(s.size:Int):=by omega
  rw[decide_eq_true h]at HP;clear h
  have HL:Hid (∀ W,Calls Tryz.prog 39 #[.string s,.string ⟨#[91]⟩] W fun e W'=>tG s e∧W'=W):=fun W=>by
   obtain⟨p,hp⟩:∃ p:ByteArray,(⟨#[91]⟩:ByteArray)=p:=⟨_,rfl⟩;have hps:p.size=1:=by rw[←hp];rfl
   rw[hp]at HP ⊢;clear hp;go_enter Tryz.func39,Tryz.ntmps39
   go_wp2_with(go_at_call 60;refine(HP.out _).mono ?_;rintro e w' ⟨rfl,hw⟩;obtain rfl:=hw.symm)
   go_ret2;exact⟨HR.out,rfl⟩
  go_enter Tryz.func19,Tryz.ntmps19
  go_wp2_with fail;refine(HL.out _).mono ?_;rintro e W' ⟨h,rfl⟩
  obtain⟨a,b,rfl⟩:∃(a:ByteArray) (b:Bool),e=.returned (.tuple #[.string a,.bool b]):=by rcases h with⟨_,rfl⟩ | ⟨_,rfl⟩ <;> exact⟨_,_,rfl⟩
  have HC:=hid h;clear h;go_wp2
  go_ret2;exact⟨HC.out,rfl⟩
 ·have HR:Hid (tG s (.returned (.tuple #[.string s,.bool false]))):=.inr ⟨h,rfl⟩
  rw[decide_eq_false h]at HP;clear h
  have HL:Hid (∀ W,Calls Tryz.prog 39 #[.string s,.string ⟨#[91]⟩] W fun e W'=>tG s e∧W'=W):=fun W=>by
   go_enter Tryz.func39,Tryz.ntmps39
   go_wp2_with(go_at_call 60;refine(HP.out _).mono ?_;rintro e w' ⟨rfl,hw⟩;obtain rfl:=hw.symm)
   go_ret2;exact⟨HR.out,rfl⟩
  go_enter Tryz.func19,Tryz.ntmps19
  go_wp2_with fail;refine(HL.out _).mono ?_;rintro e W' ⟨h,rfl⟩
  obtain⟨a,b,rfl⟩:∃(a:ByteArray) (b:Bool),e=.returned (.tuple #[.string a,.bool b]):=by rcases h with⟨_,rfl⟩ | ⟨_,rfl⟩ <;> exact⟨_,_,rfl⟩
  have HC:=hid h;clear h;go_wp2
  go_ret2;exact⟨HC.out,rfl⟩
def Bj(s:ByteArray)(e:Ending):Prop:=((bn s).getLast? = some 93∧e=.returned (.tuple #[.string (s.extract 0 (s.size - 1)),.bool true]))∨((bn s).getLast? ≠ some 93∧e=.returned (.tuple #[.string s,.bool false]))
theorem wY(s:ByteArray)(hs:s.size≤100000)(w:World):Calls Tryz.prog 61 #[.string s,.string ⟨#[93]⟩] w fun e W'=>Bj s e∧W'=w:=by
 have HP:=hid (fun W=>BF s hs W);obtain⟨p,hp⟩:∃ p:ByteArray,(⟨#[93]⟩:ByteArray)=p:=⟨_,rfl⟩;have hps:p.size=1:=by rw[←hp];rfl
 by_cases h:(bn s).getLast? = some 93
 ·have HR:Hid (Bj s (.returned (.tuple #[.string (s.extract 0 (s.size - 1)),.bool true]))):=.inl ⟨h,rfl⟩
  have hsz:1≤s.size:=by
   rw[←aa];cases hb:bn s with
   | nil=>rw[hb]at h;cases h
   | cons _ _=>simp
  obtain⟨m,hm⟩:∃ m,s.size=m+1:=⟨s.size - 1,by omega⟩;rw[show s.size - 1=m by omega]at HR;have hmz:(s.size:Int) - 1=(m:Int):=by omega
  have hwz:IntKind.i64.wrap ((s.size:Int) - 1)=(m:Int):=by rw[wrap_small _ (by omega) (by omega)];omega
  rw[decide_eq_true h,hp]at HP;rw[hp];clear h hp;go_enter Tryz.func61,Tryz.ntmps61
  go_wp2_with(go_at_call 100;refine(HP.out _).mono ?_;rintro e w' ⟨rfl,hw⟩;obtain rfl:=hw.symm)
  go_ret2;exact⟨HR.out,rfl⟩
 ·have HR:Hid (Bj s (.returned (.tuple #[.string s,.bool false]))):=.inr ⟨h,rfl⟩
  rw[decide_eq_false h,hp]at HP;rw[hp];clear h hp;go_enter Tryz.func61,Tryz.ntmps61
  go_wp2_with(go_at_call 100;refine(HP.out _).mono ?_;rintro e w' ⟨rfl,hw⟩;obtain rfl:=hw.symm)
  go_ret2;exact⟨HR.out,rfl⟩
theorem Ay(s:ByteArray)(hs:s.size≤100000)(w:World):Calls Tryz.prog 40 #[.string s,.string ⟨#[93]⟩] w fun e W'=>Bj s e∧W'=w:=by
 have HL:=hid (fun W=>wY s hs W);go_enter Tryz.func40,Tryz.ntmps40
 go_wp2_with fail;refine(HL.out _).mono ?_;rintro e W' ⟨h,rfl⟩
 obtain⟨a,b,rfl⟩:∃(a:ByteArray) (b:Bool),e=.returned (.tuple #[.string a,.bool b]):=by rcases h with⟨_,rfl⟩ | ⟨_,rfl⟩ <;> exact⟨_,_,rfl⟩
 have HC:=hid h;clear h;go_wp2
 go_ret2;exact⟨HC.out,rfl⟩
theorem xc(s:ByteArray)(hs:s.size≤400000000)(w:World):Calls Tryz.prog 28 #[.string s] w fun e W'=>e=.returned (.string s)∧Below w.heap.size w W':=by
 have HL:Hid (∀ W,Calls Tryz.prog 52 #[.string s] W fun e W'=>e=.returned (.string s)∧Below W.heap.size W W'):=fun W=>by
  have hf:Tryz.laysClo_ren.f 25=52:=by kernel_rfl
  have h:=AnyPu.stringslite_Clone Tryz.laysClo s W (by omega);rw[hf]at h;exact h
 go_enter Tryz.func28,Tryz.ntmps28
 go_wp2_with fail;refine(HL.out _).mono ?_;rintro e W' ⟨rfl,B⟩
 have HB:=hid B;clear B;go_wp2;go_ret;exact⟨rfl,HB.out⟩
theorem Av(s:ByteArray)(i:Nat)(hi:i<s.size)(hx:128≤(s[i]'hi).toNat):
  128≤(Utf8.decode s i).1∧U.az ((Utf8.decode s i).1:Nat)=true∧1≤(Utf8.decode s i).2∧i+(Utf8.decode s i).2≤s.size∧∀ j b,i≤j→j<i+(Utf8.decode s i).2→s.data.toList[j]? = some b→128≤b.toNat:=by
 obtain⟨h1,h2⟩:=decode_high s i hi hx;have h0:s.data.toList[i]? = some (s[i]'hi):=Lib.data_getElem? s i hi;have hl:s.size=s.data.toList.length:=Lib.size_eq s;have g0:s.data.toList.getD i 0=s[i]'hi:=by rw[List.getD_eq_getElem?_getD,h0];rfl
 have hgd:∀ j b,s.data.toList[j]? = some b→s.data.toList.getD j 0=b:=fun j b h=>by rw[List.getD_eq_getElem?_getD,h];rfl
 rw[Lib.decode_N]at h1 h2 ⊢;rw[g0]at h1 h2 ⊢;have hb0:=(s[i]'hi).toNat_lt;rcases Lib.decodeN_shape (s.data.toList.length - i) (s[i]'hi).toNat (s.data.toList.getD (i+1) 0).toNat (s.data.toList.getD (i+2) 0).toNat (s.data.toList.getD (i+3) 0).toNat with⟨h,_⟩ | ⟨q0,q1,q2,q3,h⟩ | ⟨q0,q1,q2,q3,q4,q5,h⟩ | ⟨q0,q1,q2,q3,q4,q5,q6,h⟩ | h
 ·omega
 ·rw[h]at h1 h2 ⊢
  simp only at h1 h2 ⊢
  refine⟨h1,?_,by omega,by omega,fun j b hj1 hj2 hb=>?_⟩
  ·unfold U.az;exact decide_eq_true (by omega)
  ·have hv:=hgd j b hb
   obtain rfl | rfl:j=i∨j=i+1:=by omega
   ·rw[g0]at hv;rw[←hv];exact hx
   ·rw[hv]at q2;omega
 ·rw[h]at h1 h2 ⊢
  simp only at h1 h2 ⊢
  refine⟨h1,?_,by omega,by omega,fun j b hj1 hj2 hb=>?_⟩
  ·unfold U.az;exact decide_eq_true (by omega)
  ·have hv:=hgd j b hb
   obtain rfl | rfl | rfl:j=i∨j=i+1∨j=i+2:=by omega
   ·rw[g0]at hv;rw[←hv];exact hx
   ·rw[hv]at q2;omega
   ·rw[hv]at q3;omega
 ·rw[h]at h1 h2 ⊢
  simp only at h1 h2 ⊢
  refine⟨h1,?_,by omega,by omega,fun j b hj1 hj2 hb=>?_⟩
  ·unfold U.az;exact decide_eq_true (by omega)
  ·have hv:=hgd j b hb
   obtain rfl | rfl | rfl | rfl:j=i∨j=i+1∨j=i+2∨j=i+3:=by omega
   ·rw[g0]at hv;rw[←hv];exact hx
   ·rw[hv]at q2;omega
   ·rw[hv]at q3;omega
   ·rw[hv]at q4;omega
 ·rw[h]at h1 h2 ⊢
  simp only at h1 h2 ⊢
  refine⟨h1,by decide,by omega,by omega,fun j b hj1 hj2 hb=>?_⟩;have hv:=hgd j b hb;obtain rfl:j=i:=by omega
  rw[g0]at hv;rw[←hv];exact hx
theorem Gr(C:ByteArray)(x:UInt8):(U.bn C).contains (x.toNat:Int)=C.data.toList.contains x:=by
 rw[Bool.eq_iff_iff,List.contains_iff_mem,List.contains_iff_mem];unfold U.bn;rw[List.mem_map]
 constructor
 ·rintro⟨b,hb,he⟩
  have:b=x:=UInt8.toNat_inj.1 (by omega);rw[←this];exact hb
 ·intro h
  exact⟨x,h,rfl⟩
theorem CH{s C:ByteArray}{i n:Nat}(hA:E.Asc C)(h:Lib.NoAny s.data.toList C.data.toList i)(hh:∀ j b,i≤j→j<i+n→s.data.toList[j]? = some b→128≤b.toNat):Lib.NoAny s.data.toList C.data.toList (i+n):=fun j b hj hb=>by
 by_cases hji:j<i
 ·exact h j b hji hb
 ·have h1:=hh j b (by omega) hj hb
  rw[Bool.eq_false_iff];intro hc
  have:=hA b (List.contains_iff_mem.1 hc);omega
theorem sK(n:Int)(w:World):Calls Tryz.prog 125 #[.int .i64 n] w fun e W'=>e=.returned (.bool (decide (8<n)))∧W'=w:=by
 go_enter Tryz.func125,Tryz.ntmps125
 go_wp2;go_ret;exact⟨rfl,rfl⟩
theorem jy{B:Nat}{a w:World}(h:Below B a w){k:Nat}(hk:B≤k)(s:ByteArray)(p:Nat):Below B a (w.iterAt k s p):=by
 refine⟨h.os,h.tape,h.output,?_,fun j hj=>?_⟩
 ·show _≤(w.heap.setIfInBounds k _).size
  rw[Array.size_setIfInBounds];exact h.size
 ·show(w.heap.setIfInBounds k _)[j]? = _
  rw[Array.getElem?_setIfInBounds,if_neg (by omega)];exact h.block j hj
theorem xm(s C:ByteArray)(h2:2≤C.size)(hz:C.size≤1000)(hA:E.Asc C)(h8:s.size≤8)(w:World):
  Calls Tryz.prog 76 #[.string s,.string C] w fun e W'=>e=.returned (.int .i64 (Lib.indexAny s.data.toList C.data.toList))∧Below w.heap.size w W':=by
 have hemp:C.toList.isEmpty=false:=by
  rw[Lib.toList_data];cases h:C.data.toList with
  | nil=>have:=Lib.size_eq C;rw[h,List.length_nil]at this;omega
  | cons _ _=>rfl
 have hn1:((C.size:Int)==1)=false:=beq_eq_false_iff_ne.2 (by omega);have h8z:decide ((8:Int)<(s.size:Int))=false:=decide_eq_false (by omega);have HA:=hid hA
 have HLO:Hid (∀(x:UInt8) W,x.toNat<128→∃ z:Int,decide (0≤z)=C.data.toList.contains x∧Calls Tryz.prog 124 #[.string C,.int .i32 x.toNat] W fun e W'=>e=.returned (.int .i64 z)∧W'=W):=fun x W hx=>by
  refine⟨_,?_,E.lT C x.toNat (by omega) (by omega) W⟩;rw[E.kc C x.toNat (by omega) (by omega),Gr]
 have HHI:Hid (∀(r:Nat) W,U.az (r:Int)=true→128≤r→Calls Tryz.prog 124 #[.string C,.int .i32 r] W fun e W'=>e=.returned (.int .i64 (-1))∧Below W.heap.size W W'):=fun r W hr h1=>by
  by_cases h3:(r:Int)=65533
  ·rw[h3];exact E.nT C hA hz W
  ·exact E.nU C hA hz r hr (by omega) h3 W
 clear hA;go_enter Tryz.func76,Tryz.ntmps76
 go_wp2_with(go_at_call 125;refine(sK _ _).mono ?_;rintro e w' ⟨rfl,hw⟩;rw[hw,h8z])
 go_loopg [9,10] s.size (fun g _ _ wx=>∃ i:Nat,i+g=s.size∧Hid (wx.heap[w.heap.size]? = some (.stringIter s i))∧Hid (Below w.heap.size w wx)∧Hid (Lib.NoAny s.data.toList C.data.toList i))
 case atStart=>exact⟨0,by omega,World.iter_heap w s 0,(Below.refl _ w).alloc (Nat.le_refl _) _,Lib.NoAny.zero _ _⟩
 case round =>
  obtain⟨i,hig,HI,HB,HN⟩:=hrel;by_cases hi:i<s.size
  ·obtain⟨x,hx⟩:∃ x:UInt8,s[i]'hi=x:=⟨_,rfl⟩
   have HX:Hid (s.data.toList[i]? = some x):=by show _=_;rw[←hx];exact Lib.data_getElem? s i hi
   by_cases hxs:x.toNat<128
   ·have hnx:=fun ty=>Lib.run_next_ascii_at (P:=Tryz.prog) wr w.heap.size s i ty HI.out hi (by rw[hx];exact hxs)
    rw[hx]at hnx;obtain⟨z,hz1,hz2⟩:=HLO.out x (wr.iterAt w.heap.size s (i+1)) hxs;have HZ:=hid hz2;have HI2:=hid (Lib.iterAt_heap wr w.heap.size s i (i+1) HI.out);have HB2:=hid (jy HB.out (Nat.le_refl _) s (i+1));clear hz2 hx;cases hin:C.data.toList.contains x
    ·rw[hin]at hz1
     have hlt:¬ (0:Int)≤z:=of_decide_eq_false hz1;have HN2:=hid (HN.out.succ HX.out hin);clear hz1 hin
     go_wp2_with(go_at_call 124;refine HZ.out.mono ?_;rintro e w' ⟨rfl,hw⟩;rw[hw])
     go_roundg (gk - 1)
     case measure=>omega
     case rel=>exact⟨i+1,by omega,HI2,HB2,HN2⟩
    ·rw[hin]at hz1
     have hge:(0:Int)≤z:=of_decide_eq_true hz1;have HR:Hid (Lib.indexAny s.data.toList C.data.toList=i):=Lib.indexAny_hit HN.out HX.out hin;clear hz1 hin
     go_wp2_with(go_at_call 124;refine HZ.out.mono ?_;rintro e w' ⟨rfl,hw⟩;rw[hw])
     go_ret;exact⟨by rw[HR.out];rfl,HB2.out⟩
   ·obtain⟨d1,d2,d3,d4,d5⟩:=Av s i hi (by rw[hx];omega)
    have hnx:=fun ty=>Lib.run_next_any_at (P:=Tryz.prog) wr w.heap.size s i ty HI.out hi
    obtain⟨r,hr⟩:∃ r,(Utf8.decode s i).1=r:=⟨_,rfl⟩;obtain⟨n,hn⟩:∃ n,(Utf8.decode s i).2=n:=⟨_,rfl⟩;rw[hr,hn]at hnx;rw[hr]at d1 d2;rw[hn]at d3 d4 d5;have HZ:=hid (HHI.out r (wr.iterAt w.heap.size s (i+n)) d2 d1);have HI2:=hid (Lib.iterAt_heap wr w.heap.size s i (i+n) HI.out);have HB2:=hid (jy HB.out (Nat.le_refl _) s (i+n));have HN2:=hid (CH HA.out HN.out d5);clear d1 d2 d5 hr hn hx hxs
    go_wp2_with(go_at_call 124;refine HZ.out.mono ?_;rintro e w' ⟨rfl,hw⟩)
    go_roundg (gk - n)
    case measure=>omega
    case rel=>exact⟨i+n,by omega,hid ((hw.block _ (Array.getElem?_eq_some_iff.1 HI2.out).1).trans HI2.out),hid (HB2.out.trans (hw.mono HB2.out.size)),HN2⟩
  ·obtain rfl:i=s.size:=by omega
   have hnx:=fun ty=>Lib.run_next_end_at (P:=Tryz.prog) wr w.heap.size s s.size ty HI.out (by omega)
   go_wp2;go_ret;exact⟨by rw[Lib.indexAny_none (by rw[←Lib.size_eq];exact HN.out)];rfl,HB.out⟩
def fbs:ByteArray:=⟨#[0,9,10,13,32,35,47,58,60,62,63,64,91,92,93,94,124]⟩
def fds:ByteArray:=⟨#[0,9,10,13,32,35,47,58,60,62,63,64,91,92,93,94,124,37,127]⟩
theorem uO:E.Asc fbs:=by
 intro b hb
 have h:fbs.data.toList.all (fun b=>decide (b.toNat<128))=true:=by decide
 exact of_decide_eq_true (List.all_eq_true.1 h b hb)
theorem Dn:∀ n:Fin 256,fbs.data.toList.contains (UInt8.ofNat n.val)=fb (n.val:Int):=by decide +kernel
theorem Gz(x:UInt8):fbs.data.toList.contains x=fb (x.toNat:Int):=by
 have h:=Dn ⟨x.toNat,x.toNat_lt⟩
 simpa using h
theorem GZ(l:List UInt8):decide (0≤Lib.indexAny l fbs.data.toList)=(l.map (fun c=>(c.toNat:Int))).any fb:=by
 induction l with
 | nil=>rfl
 | cons b l ih =>
  have hge:=Lib.indexAny_ge fbs.data.toList l;rw[Lib.indexAny,List.map_cons,List.any_cons,←ih,←Gz];cases hc:fbs.data.toList.contains b with
  | true=>simp
  | false =>
   simp only[Bool.false_eq_true,if_false,Bool.false_or];by_cases h:Lib.indexAny l fbs.data.toList=-1
   ·simp[h]
   ·have h':(Lib.indexAny l fbs.data.toList==-1)=false:=by simpa using h
    rw[h'];simp only[Bool.false_eq_true,if_false];rw[decide_eq_true (by omega:0≤Lib.indexAny l fbs.data.toList+1),decide_eq_true (by omega:0≤Lib.indexAny l fbs.data.toList)]
theorem kK(s:ByteArray)(hs:s.size≤100000)(w:World):Calls Tryz.prog 45 #[.string s,.string ⟨#[0,9,10,13,32,35,47,58,60,62,63,64,91,92,93,94,124]⟩] w fun e W'=>e=.returned (.bool ((bn s).any fb))∧Below w.heap.size w W':=by
 have HL:Hid (∀ W,Calls Tryz.prog 76 #[.string s,.string ⟨#[0,9,10,13,32,35,47,58,60,62,63,64,91,92,93,94,124]⟩] W fun e W'=>e=.returned (.int .i64 (Lib.indexAny s.data.toList fbs.data.toList))∧Below W.heap.size W W'):=fun W=>by
  by_cases h8:s.size≤8
  ·exact xm s fbs (by decide) (by decide) uO h8 W
  ·have hf:Tryz.laysAny_ren.f 153=76:=by kernel_rfl
   have h:=Any.strings_IndexAny_long Tryz.laysAny (fun w=>by kernel_rfl) (by kernel_rfl) s fbs W (by decide) (by omega) (by omega) (by decide) (fun j b hb=>uO b (List.mem_of_getElem? hb));rw[hf]at h;refine h.mono ?_;rintro e W' ⟨rfl,rfl⟩
   exact⟨rfl,((Below.refl _ _).alloc (Nat.le_refl _) _).alloc (by simp) _⟩
 have ha:(bn s).any fb=decide (0≤Lib.indexAny s.data.toList fbs.data.toList):=(GZ s.data.toList).symm;rw[ha];obtain⟨z,hz⟩:∃ z,Lib.indexAny s.data.toList fbs.data.toList=z:=⟨_,rfl⟩;rw[hz]at HL ⊢;clear ha hz;go_enter Tryz.func45,Tryz.ntmps45
 go_wp2_with fail;refine(HL.out _).mono ?_;rintro e W' ⟨rfl,B⟩
 have HB:=hid B;clear B;go_wp2;go_ret;exact⟨rfl,HB.out⟩
theorem Dj:∀ n:Fin 128,(decide ((n.val:Int)<32)||(U.bn fds).contains (n.val:Int))=fd (n.val:Int):=by decide +kernel
theorem kJ(r:Int)(h0:0≤r)(h1:r<128)(w:World):Calls Tryz.prog 118 #[.string ⟨#[0,9,10,13,32,35,47,58,60,62,63,64,91,92,93,94,124,37,127]⟩,.int .i32 r] w fun e W'=>e=.returned (.bool ((U.bn fds).contains r))∧W'=w:=by
 have HR:=hid (fun W=>E.lT fds r h0 h1 W);rw[←E.kc fds r h0 h1];obtain⟨z,hz⟩:∃ z,firstIdx fds r.toNat.toUInt8=z:=⟨_,rfl⟩;rw[hz]at HR ⊢;clear hz;unfold fds at HR
 go_enter Tryz.func118,Tryz.ntmps118
 go_wp2_with fail;refine(HR.out _).mono ?_;rintro e W' ⟨rfl,rfl⟩
 go_wp2;go_ret;exact⟨rfl,rfl⟩
theorem vV(r:Int)(h0:0≤r)(h1:r<128)(w:World):Calls Tryz.prog 73 #[.int .i32 r] w fun e W'=>e=.returned (.bool (fd r))∧W'=w:=by
 have hfd:(decide (r<32)||(U.bn fds).contains r)=fd r:=by
  obtain⟨k,rfl⟩:∃ k:Nat,r=k:=⟨r.toNat,by omega⟩;exact Dj ⟨k,by omega⟩
 have HC:=hid (fun W=>kJ r h0 h1 W);obtain⟨c,hc⟩:∃ c,(U.bn fds).contains r=c:=⟨_,rfl⟩;rw[hc]at HC hfd;rw[←hfd];clear hfd hc;by_cases hl:r<32
 ·rw[decide_eq_true hl]
  go_enter Tryz.func73,Tryz.ntmps73
  go_wp2;go_ret;exact⟨rfl,rfl⟩
 ·rw[decide_eq_false hl]
  go_enter Tryz.func73,Tryz.ntmps73
  go_wp2_with fail;refine(HC.out _).mono ?_;rintro e W' ⟨rfl,rfl⟩
  go_wp2;go_ret;exact⟨rfl,rfl⟩
theorem fa(s:ByteArray)(hs:s.size≤400000000)(hl:∀ c∈bn s,0≤c∧c<128)(w:World):Calls Tryz.prog 165 #[.string s,.func (.func 73) #[] #[],.bool true] w fun e W'=>(∃ k:Int,e=.returned (.int .i64 k)∧decide (0≤k)=(bn s).any fd)∧Below w.heap.size w W':=by
 have HL:Hid (∀(i:Nat) (h:i<s.size),(s[i]'h).toNat<128∧(bn s)[i]? = some ((s[i]'h).toNat:Int)):=fun i h=>by
  have e:(bn s)[i]? = some ((s[i]'h).toNat:Int):=by
   unfold bn;rw[List.getElem?_map,Lib.data_getElem? s i h];rfl
  have:=hl _ (List.mem_of_getElem? e);exact⟨by omega,e⟩
 have HNO:Hid ((∀ j c,j<s.size→(bn s)[j]? = some c→fd c=false)→(bn s).any fd=false):=fun h=>by
  rw[List.any_eq_false];intro c hc
  obtain⟨j,hj,rfl⟩:=List.mem_iff_getElem.1 hc;rw[h j _ (by rw[←aa];exact hj) (List.getElem?_eq_getElem hj)];simp
 have HYE:Hid (∀(j:Nat) c,(bn s)[j]? = some c→fd c=true→(bn s).any fd=true):=fun j c h hc=>List.any_eq_true.2 ⟨c,List.mem_of_getElem? h,hc⟩
 have HF:=hid vV;obtain⟨R,hR⟩:∃ R,(bn s).any fd=R:=⟨_,rfl⟩;rw[hR]at HNO HYE ⊢;clear hl hR;go_enter Tryz.func165,Tryz.ntmps165
 go_wp2_with fail
 go_loopg [7,8] s.size (fun g _ _ wx=>∃ i:Nat,i+g=s.size∧wx=w.iter s i∧Hid (∀ j c,j<i→(bn s)[j]? = some c→fd c=false))
 case atStart=>exact⟨0,by omega,rfl,fun j c hj=>by omega⟩
 case round =>
  obtain⟨i,hig,rfl,HN⟩:=hrel;cases gk with
  | zero =>
   obtain rfl:i=s.size:=by omega
   have hnx:=run_next_end (P:=Tryz.prog) w s s.size;have HR:=hid (HNO.out HN.out);go_wp2;go_ret;exact⟨⟨-1,rfl,by rw[HR.out];rfl⟩,Below.alloc (Below.refl _ _) (Nat.le_refl _) _⟩
  | succ g =>
   have hi:i<s.size:=by omega
   obtain⟨hx,he⟩:=HL.out i hi;have hnx:=fun ty=>run_next_ascii (P:=Tryz.prog) w s i ty hi hx
   obtain⟨x,hxe⟩:∃ x:Nat,(s[i]'hi).toNat=x:=⟨_,rfl⟩;rw[hxe]at hx hnx he;have HC:=hid (fun W=>HF.out (x:Int) (by omega) (by omega) W);have HE:=hid he;clear hxe he;cases hfx:fd (x:Int)
   ·rw[hfx]at HC
    have HN2:Hid (∀ j c,j<i+1→(bn s)[j]? = some c→fd c=false):=fun j c hj hc=>by
     by_cases e:j=i
     ·rw[e,HE.out]at hc;rw[←Option.some.inj hc];exact hfx
     ·exact HN.out j c (by omega) hc
    clear hfx
    go_wp2_with(go_at_call 73;refine(HC.out _).mono ?_;rintro e w' ⟨rfl,hw⟩;rw[hw])
    go_roundg g
    case measure=>omega
    case rel=>exact⟨i+1,by omega,rfl,HN2⟩
   ·rw[hfx]at HC
    have HR:=hid (HYE.out i _ HE.out hfx);clear hfx
    go_wp2_with(go_at_call 73;refine(HC.out _).mono ?_;rintro e w' ⟨rfl,hw⟩;rw[hw])
    go_ret;exact⟨⟨i,rfl,by rw[HR.out];exact decide_eq_true (by omega)⟩,Below.alloc (Below.refl _ _) (Nat.le_refl _) _⟩
theorem dq(s:ByteArray)(hs:s.size≤400000000)(hl:∀ c∈bn s,0≤c∧c<128)(w:World):Calls Tryz.prog 72 #[.string s,.func (.func 73) #[] #[]] w fun e W'=>e=.returned (.bool ((bn s).any fd))∧Below w.heap.size w W':=by
 have HI:=hid (fun W=>fa s hs hl W);clear hl
 have HJ:Hid (∀ W,Calls Tryz.prog 117 #[.string s,.func (.func 73) #[] #[]] W fun e W'=>(∃ k:Int,e=.returned (.int .i64 k)∧decide (0≤k)=(bn s).any fd)∧Below W.heap.size W W'):=fun W=>by
  go_enter Tryz.func117,Tryz.ntmps117
  go_wp2_with fail;refine(HI.out _).mono ?_;rintro e W' ⟨⟨k,rfl,hk⟩,B⟩
  have HB:=hid B;have HK:=hid hk;clear B hk;go_wp2;go_ret;exact⟨⟨k,rfl,HK.out⟩,HB.out⟩
 go_enter Tryz.func72,Tryz.ntmps72
 go_wp2_with fail;refine(HJ.out _).mono ?_;rintro e W' ⟨⟨k,rfl,hk⟩,B⟩
 have HK:=hid hk;have HB:=hid B;clear B hk;go_wp2;go_ret;exact⟨by rw[←HK.out];rfl,HB.out⟩
end Go.Proofs.YtkekkbciiohbkaaGreatDoor.H
