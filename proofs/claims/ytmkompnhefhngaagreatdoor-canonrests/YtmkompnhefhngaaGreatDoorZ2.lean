/- Contracts and plain facts. -/
import Derived.Test.YtmkompnhefhngaaGreatDoorZ1
import Derived.StillTail
import Derived.Deep.Quiet
import Derived.Laws.Runes
import Derived.Laws.RangeString
import Derived.Deep.LoopGhost
import Derived.WalkMore
import Derived.Shelf.Strings.Prefix
import Derived.Shelf.Strings.IndexAnyAll
import Derived.Shelf.Pu.Clone
import Derived.Laws.RangeAny
import Derived.Lib.OthersKept
import Derived.Lib.MapLaws
import Derived.Laws.StructEq
import Derived.Shelf.Strings.LastIndexAll
import Derived.Shelf.Strings.FuncGrows
import Derived.Ground.GgwProg
import Derived.Shelf.Strings.SlTrimAscii
import Derived.KernelRfl
import Derived.Shelf.SlSorted.Search
import Derived.Ground.SlsoProg
import Derived.Deep.MidRow
import Derived.BigRegion
set_option maxRecDepth 100000
set_option maxHeartbeats 16000000
set_option linter.unusedVariables false
set_option linter.unnecessarySimpa false
open List (getElem?_eq_getElem length_cons length_map getLast?_cons_cons drop_eq_getElem_cons getElem?_map drop_zero take_append_drop mem_of_getElem? length_drop getElem_mem find?_eq_none filter_append mem_map map_cons mem_append length_take mem_cons)
open Nat (le_refl zero_le zero_add le_trans)
open Go.World (setRow_alloc_new)
open Array (getElem?_setIfInBounds_ne)
open Bool (false_eq_true and_eq_true)
open Go.ByteArray (toList_eq)
open Option (getD_some)
open Go.Lib (data_getElem? size_eq)
namespace Go.Proofs.YtmkompnhefhngaaGreatDoor
open Tryz Go.RowKit
namespace H
def fb(c:Int):Bool:=[0,9,10,13,32,35,47,58,60,62,63,64,91,92,93,94,124].contains c
def fd(c:Int):Bool:=fb c||(decide (c<32)||(decide (c=37)||decide (c=127)))
def z8:List Nat:=[0,0,0,0,0,0,0,0]
abbrev Hst:=Nat×List Int×Nat×List Nat×Int
def non(e:Int):Hst:=(0,[],0,z8,e)
def six(s:List Int):Hst:=if 2<=s.length/\s.getLast? = some 93 then (match X.prs ((s.drop 1).dropLast) with | some a=>(3,[],0,a,0) | none=>non 70) else non 70
def opq(s:List Int):Hst:=if s.any fb=true then non 70 else if s=[] then non 0 else (4,E.en 0 (U.dec s),0,z8,0)
def dom(d:List Int)(r:Int):Hst:=if r≠0\/d=[]\/d.any fd=true then non 70 else if F.ends d=true then (if (F.prs d).2=0 then (2,[],(F.prs d).1,z8,0) else non 70) else (1,d,0,z8,0)
def HP(A:List Int->List Int->Int->Prop)(s:List Int)(sp:Bool)(h:Hst):Prop :=
 if 4096<s.length then h=non 4 else if s.head? = some 91 then h=six s else if sp=false then h=opq s else ∃ d r,A (E.de s) d r/\h=dom d r
def txt(h:Hst):List Int:=if h.1=1\/h.1=4 then h.2.1 else if h.1=2 then F.txt h.2.2.1 else if h.1=3 then 91::(X.txt h.2.2.2.1++[93]) else []
structure Asc(A:List Int->List Int->Int->Prop):Prop where
 one:∀ {s t u:List Int} {r q:Int},A s t r->A s u q->t=u/\r=q
 rest:∀ {s t:List Int},A s t 0->A t t 0
 low:∀ {s t:List Int},A s t 0->∀ c∈t,0<=c/\c<128
 num:∀ {t:List Int},(∀ c∈t,97<=c/\c<=122\/48<=c/\c<=57\/c=46)->A t t 0
 cap:A [69,88,65,77,80,76,69,46,99,111,109] [101,120,97,109,112,108,101,46,99,111,109] 0
 len:∀ {s t:List Int},A s t 0->U.Bytes s->s.length<=4096->t.length<=200000000
 bln:∀ {d:List Int} {r:Int},A [97,32,98] d r->r≠0\/d=[]\/d.any fd=true
theorem HP.one{A:List Int->List Int->Int->Prop}(hA:Asc A){s:List Int}{sp:Bool}{h k:Hst}(x:HP A s sp h)(y:HP A s sp k):h=k:=by
 unfold HP at x y;split at x
 ·rename_i c;rw[if_pos c]at y;rw[x,y]
 ·rename_i c;rw[if_neg c]at y;split at x
  ·rename_i c;rw[if_pos c]at y;rw[x,y]
  ·rename_i c;rw[if_neg c]at y;split at x
   ·rename_i c;rw[if_pos c]at y;rw[x,y]
   ·rename_i c;rw[if_neg c]at y;obtain⟨d,r,h1,rfl⟩:=x;obtain⟨d',r',h2,rfl⟩:=y;obtain⟨rfl,rfl⟩:=hA.one h1 h2;rfl
theorem kf{a:Nat}(ha:a<4294967296):(F.txt a).length<=300:=by have h:F.txt a=F.wr 10 (a / 16777216)++46::(F.wr 10 (a / 65536 % 256)++46::(F.wr 10 (a / 256 % 256)++46::F.wr 10 (a % 256))):=rfl;have h1:=F.rZ 10 (a / 16777216);have h2:=F.rZ 10 (a / 65536 % 256);have h3:=F.rZ 10 (a / 256 % 256);have h4:=F.rZ 10 (a % 256);rw[h];simp only[List.length_append,length_cons];omega
theorem sH(l:List Int)(h:(F.prs l).2=0):(F.prs l).1<4294967296:=by
 unfold F.prs F.adr at h ⊢;split at h
 ·cases h
 ·rename_i h4;rw[if_neg h4];split at h
  ·cases h
  ·rename_i h8;rw[if_neg h8];split at h
   ·cases h
   ·rename_i hg;rw[if_neg hg];rw[F.oS,Bool.not_eq_true,Bool.or_eq_false_iff]at hg;show F.sm 0 _<_;rw[F.xQ]
    have hp:0<(F.prt l).length:=by
     unfold F.prt;have h1:=List.length_pos_iff.2 (F.aV l);split
     ·rw[List.length_dropLast];omega
     ·exact h1
    refine F.qQ (by rw[length_map,length_map];exact hp) (by rw[length_map,length_map];omega) ?_;rw[length_map,length_map];exact hg.2
end H
namespace E
theorem bJ(s:ByteArray)(i:Nat)(h:i<s.size):(U.bn s)[i]?.getD 0=((s[i].toNat:Nat):Int):=by
 unfold U.bn;rw[getElem?_map];have hl:i<s.data.toList.length:=by simpa using h
 rw[getElem?_eq_getElem hl];rfl
theorem cM{s:ByteArray}{i:Nat}(h:i<s.size):0<=(U.bn s)[i]?.getD 0/\(U.bn s)[i]?.getD 0<=255:=by rw[bJ s i h];have:=s[i].toNat_lt;omega
def JO(k:Nat)(L:List Int)(w:World)(e:Ending)(W':World):Prop:=(∃ t,e=.returned (.string t)/\U.bn t=en k L)/\Below w.heap.size w W'
def zn(l:List Int)(w:World)(e:Ending)(W':World):Prop:=(∃ t,e=.returned (.string t)/\U.bn t=de l)/\Below w.heap.size w W'
section
variable {P : Program} {ops : Array Oper} {md : Region.Mode} {Q : Exit -> Act -> World -> Prop}
def bA(P:Program)(ops:Array Oper)(o:Oper)(v:Value)(a:Act):Prop :=
 (Region.wanted o (yielded ops a.tmps)=true/\∀ w,o.quietAt P a (fun x=>x=w) w v)\/(Region.wanted o (yielded ops a.tmps)=false/\v=undef)
theorem bA.of_same{o:Oper}{v:Value}{a a':Act}(hy:bA P ops o v a)(he:execOp a'.eval o=execOp a.eval o)
  (hw:Region.wanted o (yielded ops a'.tmps)=Region.wanted o (yielded ops a.tmps)):bA P ops o v a':=by
 unfold bA Oper.quietAt at *;rw[he,hw];exact hy
theorem bA.wpOp{i:Nat}{o:Oper}{v:Value}{a:Act}{w:World}{K:Act->World->Prop}(hi:ops[i]? = some o)(hy:bA P ops o v a)(h:K (a.put o.dst v) w):wpOp P ops Q i K a w:=by
 unfold Go.wpOp;simp only[hi];rcases hy with⟨hw,hv⟩ | ⟨hw,rfl⟩
 ·simp only[hw,if_true];left;have h3:=hv w;unfold Oper.quietAt at h3;unfold Oper.wp;generalize (execOp a.eval o).run P w=r at *;cases r with
  | ok n w' =>
   cases n <;> simp only[Oper.quietUpon]at h3 <;> simp only[Oper.upon]
   case value u =>
    obtain⟨e1,e2⟩:=h3;rw[e1,e2];exact h
   case skip =>
    obtain⟨e1,e2⟩:=h3;rw[e1,<-e2];exact h
   case enter f args =>
    obtain⟨e1,hc⟩:=h3;rw[e1];exact hc.mono fun e w'' ⟨he,hw''⟩=>by subst he;subst hw'';exact h
  | halt x w'=>simp only[Oper.quietUpon]at h3
 ·simp only[hw,false_eq_true,if_false];exact h
theorem put_defers(a:Act)(x:Option Tmp)(v:Value)(d:Deferred):({ (a.put x v) with defers:=d::(a.put x v).defers }:Act)=({ a with defers:=d::a.defers }:Act).put x v:=by cases x <;> rfl
theorem wK(a:Act)(D:List Deferred):({ a with defers:=D }:Act).eval=a.eval:=by funext x;cases x <;> rfl
theorem wpOp_put{j:Nat}{oi oj:Oper}{v:Value}(hj:ops[j]? = some oj)(hap:oi.apart ops oj=true)
  (hsi:∀ cs b,oi.op≠.select cs b) (hsj:∀ cs b,oj.op≠.select cs b) (hQ:∀ e a a' w,e≠Exit.normal->Q e a w->Q e a' w) {K:Act->World->Prop} {a:Act} {w:World}
  (hy:bA P ops oi v a) (h:wpOp P ops Q j K (a.put oi.dst v) w) :
  wpOp P ops Q j (fun a' w'=>bA P ops oi v a'/\K (a'.put oi.dst v) w') a w:=by
 obtain⟨h1,h2,h3⟩:=Oper.apart_spec hap
 have keep:∀(a:Act),bA P ops oi v a->∀ u,bA P ops oi v (a.put oj.dst u):=fun a hy u =>
  hy.of_same (execOp_put oi hsi a oj.dst u h3) (wanted_put oi a oj.dst u h3)
 unfold wpOp at *;simp only[hj]at *;rw[wanted_put oj a oi.dst v h1]at h;split
 ·rename_i hw;simp only[hw,if_true]at h;rcases h with h | ⟨h,hl⟩
  ·left;unfold Oper.wp at *;rw[execOp_put oj hsj a oi.dst v h1]at h;generalize (execOp a.eval oj).run P w=r at *;cases r with
   | ok n w' =>
    cases n <;> simp only[Oper.upon]at h ⊢
    case value u=>exact⟨keep a hy u,by rw[<-Act.put_comm a v u h2];exact h⟩
    case skip=>exact⟨keep a hy _,by rw[<-Act.put_comm a v _ h2];exact h⟩
    case defer d =>
     rw[put_defers,Act.put_comm _ v _ h2]at h;have hy':bA P ops oi v ({ a with defers:=d::a.defers }:Act):=hy.of_same (by rw[wK]) rfl;exact⟨keep _ hy' _,h⟩
    case enter f args =>
     refine h.mono fun e w'' hh=>?_;cases e with
     | returned u=>exact⟨keep a hy u,by rw[<-Act.put_comm a v u h2];exact hh⟩
     | panicked c=>exact hQ _ _ _ _ (by simp) hh
     | outgrown=>exact hh
    case row row args =>
     refine h.mono (fun u w'' hh=>?_);exact⟨keep a hy u,by rw[<-Act.put_comm a v u h2];exact hh⟩
   | halt x w' =>
    cases x <;> simp only[Oper.upon]at h ⊢
    exact hQ _ _ _ _ (by simp) h
  ·right;refine⟨?_,hl⟩;unfold Oper.asks at *;rw[execOp_put oj hsj a oi.dst v h1]at h;exact h
 ·rename_i hw;simp only[hw]at h;exact⟨keep a hy _,by rw[<-Act.put_comm a v undef h2];exact h⟩
def AK(md:Region.Mode)(ops:Array Oper)(i:Nat)(oi:Oper)(listed:Array Bool):Prop :=
 ∀ j oj,ops[j]? = some oj->j≠i->listed.getD j true=false->(∀ e∈oj.after,Region.binds md e=true->e.on≠i)->oi.apart ops oj=true
theorem AK.more{i j:Nat}{oi:Oper}{listed:Array Bool}(h:AK md ops i oi listed)(hj:listed.getD j true=false):AK md ops i oi (listed.setIfInBounds j true):=by
 intro k ok hk hki hun;by_cases e:j=k
 ·exact h k ok hk hki (e ▸ hj)
 ·exact h k ok hk hki ((getD_set_ne true e).symm.trans hun)
theorem Lx{i j:Nat}{listed:Array Bool}(hi:i∈Region.ready md ops listed)(hj:j∈Region.ready md ops listed):listed.getD j true=false/\∃ oj,ops[j]? = some oj/\∀ e∈oj.after,Region.binds md e=true->e.on≠i:=by obtain⟨h1,oj,h2,h3⟩:=mem_ready.1 hj;have h4:=getD_both (mem_ready.1 hi).1;exact⟨h1,oj,h2,fun e he hb h5=>by rw[<-h5,h3 e he hb]at h4;cases h4⟩
theorem wpAny_first{i:Nat}{oi:Oper}{v:Value}(hi:ops[i]? = some oi)(hsel:∀(j:Nat) (o:Oper) cs b,ops[j]? = some o->o.op≠.select cs b)(hQ:∀ e a a' w,e≠Exit.normal->Q e a w->Q e a' w):
  ∀(n:Nat) (listed:Array Bool) (a:Act) (w:World),AK md ops i oi listed->i∈Region.ready md ops listed->bA P ops oi v a ->
   wpAny P md ops Q n (listed.setIfInBounds i true) (a.put oi.dst v) w->wpAny P md ops Q (n+1) listed a w
 | 0,listed,a,w,hf,hr,hy,H=>⟨fun h=>absurd (h ▸ hr) (by simp),fun j hj=>by
     by_cases e:j=i
     · rw[e];exact hy.wpOp hi H
     · exact absurd (H.1 ▸ ready_mono hj e) (by simp)⟩
 | n+1,listed,a,w,hf,hr,hy,H=>⟨fun h=>absurd (h ▸ hr) (by simp),fun j hj=>by
     by_cases e:j=i
     · rw[e];exact hy.wpOp hi H
     · obtain⟨hun,oj,hoj,hno⟩:=Lx hr hj
       have step:=wpOp_put hoj (hf j oj hoj e hun hno) (fun cs b=>hsel i oi cs b hi) (fun cs b=>hsel j oj cs b hoj) hQ hy (H.2 j (ready_mono hj e))
       refine wpOp_mono (fun a' w' ⟨hy',H'⟩=>?_) step
       rw[Array.setIfInBounds_comm _ _ (Ne.symm e)]at H'
       exact wpAny_first hi hsel hQ n _ a' w' (hf.more hun) (ready_mono hr (Ne.symm e)) hy' H'⟩
def fE(P:Program)(ops:Array Oper)(Q:Act->Prop):List Oper->Act->Prop
 | [],a=>Q a
 | o::rest,a=>∃ v,bA P ops o v a/\fE P ops Q rest (a.put o.dst v)
theorem nL{g:Nat}{w:World}(hs:Region.noSelect ops=true)(hQ:∀ e a a' w,e≠Exit.normal->Q e a w->Q e a' w):∀(l:List Oper) (k:Nat) (listed:Array Bool) (a:Act),(∀ j,j<l.length->l[j]? = ops[k+j]?) ->
  Region.lexHead md ops g l.length k listed=true->fE P ops (fun a'=>∀ listed',Region.seqB md ops g (k+l.length) listed'=true->wpAny P md ops Q g listed' a' w) l a->wpAny P md ops Q (l.length+g) listed a w
 | [],k,listed,a,_,hB,h=>by
  simp only[List.length_nil,zero_add,Nat.add_zero]at *;exact h listed (by simpa[Region.lexHead]using hB)
 | o::l,k,listed,a,hl,hB,h=>by
  have h0:ops[k]? = some o:=by simpa using(hl 0 (by simp)).symm
  simp only[length_cons,Region.lexHead,and_eq_true]at hB;obtain⟨⟨hr,hf⟩,hB'⟩:=hB;obtain⟨v,hy,hK⟩:=h
  have:=nL (g:=g) (w:=w) hs hQ l (k+1) (listed.setIfInBounds k true) (a.put o.dst v) (fun j hj=>by have:=hl (j+1) (by simp;omega);simpa[Nat.add_assoc,Nat.add_comm 1 j]using this) hB' (by
    simp only[length_cons]at hK
    rw[show k+1+l.length=k+(l.length+1) by omega]
    exact hK)
  have e:(o::l).length+g=(l.length+g)+1:=by simp;omega
  rw[e];exact wpAny_first h0 (Region.noSelect_spec hs) hQ (l.length+g) listed a w (Region.free_spec h0 hf) (by simpa using hr) hy this
def AJ(Q:Exit->Act->World->Prop):Exit->Act->World->Prop:=fun e a w=>e=.normal/\Q .normal a w
def NV(l:List Oper)(n:Nat):Bool:=Region.noSelect l.toArray&&decide (n<=l.length)&&Region.lexHead .any l.toArray (l.length - n) n 0 (Array.replicate l.length false)
theorem eI{id:Nat}{a:Act}{w:World}{l:List Oper}(n:Nat)(hm:P.follows .mixedOrders=true)(hB:NV l n=true)
  (h:fE P l.toArray (fun a'=>wpList P l.toArray (AJ Q) (l.drop n) a' { w with drawn:=w.drawn+1 }) (l.take n) a):(Code.region id l.toArray true).wp P Q a w:=by
 simp only[NV,and_eq_true,decide_eq_true_eq]at hB;obtain⟨⟨hs,hn⟩,hlex⟩:=hB;have htl:(l.take n).length=n:=by simp;omega
 have hdl:(l.drop n).length=l.length - n:=by simp
 refine Code.wp_mono (Q:=AJ Q) (fun e a w h=>by obtain⟨rfl,h⟩:=h;exact h) ?_;refine wp_region_any hm ?_
 have key:=nL (P:=P) (ops:=l.toArray) (md:=.any) (Q:=AJ Q) (g:=l.length - n) (w:={ w with drawn:=w.drawn+1 }) hs (fun e a a' w he h=>absurd h.1 he) (l.take n) 0 (Array.replicate l.length false) a
  (fun j hj=>by rw[htl]at hj;simp[hj]) (by rw[htl];exact hlex) (by
    have mono:∀(q q':Act->Prop) (ls:List Oper) (a:Act),(∀ a,q a->q' a)->fE P l.toArray q ls a->fE P l.toArray q' ls a:=by
      intro q q' ls
      induction ls with
      | nil=>intro a hq h;exact hq _ h
      | cons o ls ih=>intro a hq h;obtain⟨v,h1,h2⟩:=h;exact⟨v,h1,ih _ hq h2⟩
    refine mono _ _ _ _ (fun a' ha' listed' hB'=>?_) h
    rw[htl,zero_add]at hB'
    have:=wpAny_of_seq (P:=P) (ops:=l.toArray) (md:=.any) (Q':=AJ Q) (l.drop n) n listed' a' { w with drawn:=w.drawn+1 } (fun j=>by simp[List.getElem?_drop]) (by rw[hdl];exact hB') ha'
    rw[hdl]at this
    exact this)
 rw[htl]at key;have e:n+(l.length - n)=l.toArray.size:=by simp;omega
 rw[e]at key;simpa using key
theorem jC{Q':Act->Prop}{a:Act}(h:Q' a):fE P ops Q' [] a:=h
theorem aF{Q':Act->Prop}{a:Act}{o:Oper}{rest:List Oper}(v:Value)(hg:o.guard=none)(h:∀ w,(execOp a.eval o).run P w=.ok (.value v) w)(hk:fE P ops Q' rest (a.put o.dst v)):fE P ops Q' (o::rest) a :=
 ⟨v,.inl ⟨by unfold Region.wanted;rw[hg],fun w=>by unfold Oper.quietAt;rw[h w];exact⟨rfl,rfl⟩⟩,hk⟩
theorem ue{Q':Act->Prop}{a:Act}{o:Oper}{rest:List Oper}(v:Value)(hg:o.guard=none){f:FuncId}{args:Array Value}(h:∀ w,(execOp a.eval o).run P w=.ok (.enter f args) w)(hc:∀ w,Calls P f args w fun e w'=>e=.returned v/\w'=w)(hk:fE P ops Q' rest (a.put o.dst v)):fE P ops Q' (o::rest) a :=
 ⟨v,.inl ⟨by unfold Region.wanted;rw[hg],fun w=>by unfold Oper.quietAt;rw[h w];exact⟨rfl,(hc w).mono fun e w' h=>h⟩⟩,hk⟩
end
theorem Hi(s:ByteArray)(c:Int)(w:World):Calls prog 100 #[.string s,.int .u8 c] w fun e W'=>e=.returned (.int .i64 (firstIdx s c.toNat.toUInt8))/\W'=w:=by go_enter func100,ntmps100;go_wp2;rw[run_callFunc_extern func159 (by kernel_rfl) (by kernel_rfl) (by kernel_rfl) (e:=Extern.BytealgIndexByte.indexByte) (by kernel_rfl),run_indexByte_string];simp only[Result.andThen];rw[Oper.upon_value];go_wp2;go_ret;exact⟨rfl,rfl⟩
theorem fP(s:ByteArray)(c:Int)(w:World):Calls prog 147 #[.string s,.int .u8 c] w fun e W'=>e=.returned (.int .i64 (firstIdx s c.toNat.toUInt8))/\W'=w:=by go_enter func147,ntmps147;go_wp2_with(go_at_call 100;refine(Hi _ _ _).mono ?_;rintro e w' ⟨rfl,rfl⟩);go_ret;exact⟨rfl,rfl⟩
theorem qz(r:Int)(h:U.ar r=true)(w:World):Calls prog 221 #[.int .i32 r] w fun e W'=>e=.returned (.bool true)/\W'=w:=by
 have h':(0<=r/\r<=1114111)/\¬ (55296<=r/\r<=57343):=by unfold U.ar at h;have:=of_decide_eq_true h;omega
 clear h;obtain⟨⟨h0,h1⟩,h2⟩:=h';by_cases h3:r<55296
 ·clear h2;go_enter func221,ntmps221;go_wp2;go_ret;exact⟨rfl,rfl⟩
 ·have h4:57343<r:=by omega
  clear h2;go_enter func221,ntmps221;go_wp2;go_ret;exact⟨rfl,rfl⟩
def Asc(t:ByteArray):Prop:=∀ b∈t.data.toList,b.toNat<128
theorem ku(t:ByteArray)(r:Int)(h0:0<=r)(h1:r<128)(w:World):Calls prog 180 #[.string t,.int .i32 r] w fun e W'=>e=.returned (.int .i64 (firstIdx t r.toNat.toUInt8))/\W'=w:=by
 have hw:IntKind.u8.wrap r=r:=by rw[IntKind.wrap_u8];omega
 go_enter func180,ntmps180;go_wp2_with(go_at_call 147;refine(fP _ _ _).mono ?_;rintro e w' ⟨rfl,rfl⟩);go_ret;exact⟨rfl,rfl⟩
theorem lI(t:ByteArray)(ha:Asc t)(hz:t.size<=1000)(w:World):Calls prog 180 #[.string t,.int .i32 65533] w fun e W'=>e=.returned (.int .i64 (-1))/\Below w.heap.size w W':=by
 have HA:=hid ha;clear ha;go_enter func180,ntmps180;go_wp2_with fail
 go_loopg [5,6] t.size (fun g _ _ wx=>∃ i:Nat,i+g=t.size/\wx=w.iter t i)
 case atStart=>exact⟨0,by omega,rfl⟩
 case round =>
  obtain⟨i,hig,rfl⟩:=hrel;cases gk with
  | zero =>
   obtain rfl:i=t.size:=by omega
   have hnx:=run_next_end (P:=prog) w t t.size;go_wp2;go_ret;exact⟨rfl,Below.alloc (Below.refl _ _) (le_refl _) _⟩
  | succ g =>
   have hi:i<t.size:=by omega
   have hx:(t[i]'hi).toNat<128:=HA.out _ (Array.getElem_mem_toList (xs:=t.data) hi);have hnx:=fun ty=>run_next_ascii (P:=prog) w t i ty hi hx;obtain⟨x,hxe⟩:=Ex' ((t[i]'hi).toNat:Nat);rw[hxe]at hx hnx;clear hxe;have hne:((x:Int)==65533)=false:=by simp;omega
   go_wp2
   go_roundg g
   case rel=>exact⟨i+1,by omega,rfl⟩
   case measure=>omega
theorem qT(t:ByteArray)(ha:Asc t)(hz:t.size<=1000)(r:Int)(hr:U.ar r=true)(h1:128<=r)(h2:r≠65533)(w:World):Calls prog 180 #[.string t,.int .i32 r] w fun e W'=>e=.returned (.int .i64 (-1))/\Below w.heap.size w W':=by
 have h2b:(r==65533)=false:=by simpa using h2
 have HVR:=hid (fun W=>qz r hr W);have hv:Utf8.valid r=true:=by rw[validRune_eq];unfold U.ar at hr;have:=of_decide_eq_true hr;unfold validRune;exact decide_eq_true (by omega)
 obtain⟨f1,f2,f3⟩:=encode_facts r hv h1;have hr1:=aS hr;obtain⟨hr0,hr2⟩:=hr1;have HFI:Hid (∀(a:Nat) (c:UInt8),128<=c.toNat->firstIdx (t.extract a t.size) c=-1):=fun a c hc=>firstIdx_ascii t a t.size c ha hc;have HA:=hid ha;clear h2 hr hv ha;obtain⟨E,hE⟩:=Ex' (Utf8.encode r);rw[hE]at f1 f2 f3;have hl:E.size - 1<E.size:=by omega
 have f4:=f3 hl;obtain⟨c,hc⟩:=Ex' (E[E.size - 1]'hl:UInt8);rw[hc]at f4;obtain⟨m,hm⟩:∃ m:Nat,E.size=m+1:=⟨E.size - 1,by omega⟩
 have hi1:∀ h:m<E.size,E[m]'h=c:=fun h=>by
  have:E.size - 1=m:=by omega
  simp only[this]at hc;exact hc
 have hmz:(E.size:Int) - 1=(m:Int):=by omega
 clear f3 hl hc;by_cases hlt:m<t.size
 ·have hx:(t[m]'hlt).toNat<128:=HA.out _ (Array.getElem_mem_toList (xs:=t.data) hlt);go_enter func180,ntmps180;go_wp2_with(go_at_call 221;refine(HVR.out _).mono ?_;rintro e w' ⟨rfl,hw1⟩;obtain rfl:=hw1.symm);go_step3;go_wp2_with fail
  go_loopw [9] (fun v9 wr=>v9=.int .i64 m/\wr=w) (fun _ _=>0)
  case atStart=>exact⟨rfl,rfl⟩
  case round =>
   obtain⟨rfl,rfl⟩:=hrel;have hfi:=HFI.out (m+1) c f4;obtain⟨x,hxe⟩:=Ex' ((t[m]'hlt).toNat:Nat);obtain⟨y,hye⟩:=Ex' (c.toNat:Nat);have hyc:((y:Int)).toNat.toUInt8=c:=by rw[<-hye];simp
   rw[hxe]at hx;rw[hye]at f4;have hne:((x:Int) != (y:Int))=true:=by simp;omega
   have hIB:Hid (∀ W,Calls prog 147 #[.string (t.extract (m+1) t.size),.int .u8 y] W fun e W'=>e=.returned (.int .i64 (-1))/\W'=W):=fun W=>(fP _ _ W).mono (by rintro e W' ⟨rfl,h⟩;rw[hyc,hfi];exact⟨rfl,h⟩);have hlz:(m:Int)+1<=(t.size:Int):=by omega
   have hw1:IntKind.i64.wrap ((m:Int)+1)=(m:Int)+1:=wrap_small _ (by omega) (by omega);go_wp2_with fail;go_step3;go_wp2_with fail
   go_quiet (fail)
   go_wp2_with fail;have hen:=enters_of func147 (by kernel_rfl) rfl;refine eI 8 (by kernel_rfl) (by kernel_rfl) ?_;simp only[List.take_succ_cons,List.take_zero,List.drop_succ_cons,drop_zero];refine aF (.string t) rfl (fun W=>by go_simp) ?_;refine aF (.int .i64 m) rfl (fun W=>by go_simp) ?_;refine aF (.int .i64 ((m:Int)+1)) rfl (fun W=>by go_simp) ?_;refine aF (.string (t.extract (m+1) t.size)) rfl (fun W=>by go_simp;intro h;omega) ?_;refine aF (.string E) rfl (fun W=>by go_simp) ?_;refine aF (.int .i64 m) rfl (fun W=>by go_simp) ?_;refine aF (.int .u8 y) rfl (fun W=>by go_simp;intro h;omega) ?_;refine ue (.int .i64 (-1)) rfl (f:=147) (args:=#[.string (t.extract (m+1) t.size),.int .u8 y]) (fun W=>by go_simp) hIB.out ?_;refine jC ?_;show wpList _ _ _ _ _ (World.drewN _ _).drew;go_wp2_with fail;refine⟨rfl,?_⟩;go_wp2;show bodyPost prog Tryz.f180 (fun e W'=>e=.returned (.int .i64 (-1))/\Below wr.heap.size wr W') Exit.ret _ _;go_ret;exact⟨rfl,(fun h=>⟨h.os,h.tape,h.output,h.size,h.block⟩) (Below.refl wr.heap.size wr)⟩
 ·go_enter func180,ntmps180;go_wp2_with(go_at_call 221;refine(HVR.out _).mono ?_;rintro e w' ⟨rfl,hw1⟩;obtain rfl:=hw1.symm);go_step3;go_wp2_with fail
  go_loopw [9] (fun v9 wr=>v9=.int .i64 m/\wr=w) (fun _ _=>0)
  case atStart=>exact⟨rfl,rfl⟩
  case round =>
   obtain⟨rfl,rfl⟩:=hrel;go_wp2;rw[Exit.noGoto_ret];go_ret;exact⟨rfl,Below.refl _ _⟩
theorem jd(t:ByteArray)(r:Int)(h0:0<=r)(h1:r<128):decide (0<=firstIdx t r.toNat.toUInt8)=(U.bn t).contains r:=by
 rw[firstIdx_nonneg];have hr:(r.toNat.toUInt8.toNat:Int)=r:=by simp;omega
 rw[Bool.eq_iff_iff,List.any_eq_true,List.contains_iff_mem];unfold U.bn;rw[mem_map];constructor
 ·rintro⟨b,hb,he⟩;have:=eq_of_beq he;exact⟨b,hb,by rw[this];exact hr⟩
 ·rintro⟨b,hb,he⟩;refine⟨b,hb,beq_iff_eq.2 ?_⟩;apply UInt8.toNat_inj.1;omega
theorem Ik{t:ByteArray}(ha:Asc t){r:Int}(h1:128<=r):(U.bn t).contains r=false:=by rw[Bool.eq_false_iff];intro hc;have hm:=List.contains_iff_mem.1 hc;unfold U.bn at hm;obtain⟨b,hb,he⟩:=List.mem_map.1 hm;have:=ha b hb;omega
theorem bP(t:ByteArray)(ha:Asc t)(hz:t.size<=1000)(r:Int)(hr:U.ar r=true)(w:World):Calls prog 174 #[.string t,.int .i32 r] w fun e W'=>e=.returned (.bool ((U.bn t).contains r))/\Below w.heap.size w W':=by
 have HC:Hid (∃ i:Int,decide (0<=i)=(U.bn t).contains r/\∀ W,Calls prog 180 #[.string t,.int .i32 r] W fun e W'=>e=.returned (.int .i64 i)/\Below W.heap.size W W'):=by
  have hb:=aS hr;by_cases h1:r<128
  ·exact⟨_,jd t r hb.1 h1,fun W=>(ku t r hb.1 h1 W).mono (by rintro e W' ⟨rfl,rfl⟩;exact⟨rfl,Below.refl _ _⟩)⟩
  ·refine⟨-1,?_,fun W=>?_⟩
   ·rw[Ik ha (by omega)];rfl
   ·by_cases h2:r=65533
    ·subst h2;exact lI t ha hz W
    ·exact qT t ha hz r hr (by omega) h2 W
 obtain⟨i,hi,hc⟩:=HC.out;rw[<-hi];have HI:=hid hc;clear HC hi hc hr ha;go_enter func174,ntmps174;go_wp2_with(go_at_call 180;refine(HI.out _).mono ?_;rintro e w' ⟨rfl,B⟩);go_ret;exact⟨rfl,B⟩
end E
end Go.Proofs.YtmkompnhefhngaaGreatDoor
namespace Go.Proofs
open Go.Shelf Go.RowKit
shelf_lay Lays.n206 Nm 206 at Tryz as Tryz.laysPre
shelf_lay Lays.n207 Nm 207 at Tryz as Tryz.laysSuf
shelf_lay Lays.n153 Nm 153 at Tryz as Tryz.laysAny
shelf_lay LaysPu.n25 Mp 25 at Tryz as Tryz.laysClo
end Go.Proofs
namespace Go.Proofs.YtmkompnhefhngaaGreatDoor
open Tryz Go.RowKit
namespace H
open F (bn aa hid)
theorem OS(s:ByteArray):Lib.hasPrefix s.data.toList [91]=decide ((bn s).head? = some 91):=by
 unfold bn Lib.hasPrefix;cases s.data.toList with
 | nil=>rfl
 | cons c l =>
  have h:((91:UInt8)==c)=decide ((c.toNat:Int)=91):=by
   rw[Bool.eq_iff_iff,beq_iff_eq,decide_eq_true_iff];constructor
   ·rintro rfl;rfl
   ·intro h;apply UInt8.toNat_inj.1;show 91=_;omega
  simp[List.isPrefixOf,h]
theorem Ow(s:ByteArray):Lib.hasSuffix s.data.toList [93]=decide ((bn s).getLast? = some 93):=by
 have h:Lib.hasSuffix s.data.toList [93]=([93]:List UInt8).isSuffixOf s.data.toList:=rfl;rw[h,List.isSuffixOf];unfold bn;rw[List.getLast?_map,<-List.head?_reverse];show([93]:List UInt8).isPrefixOf _=_;cases s.data.toList.reverse with
 | nil=>rfl
 | cons c l =>
  have h:((93:UInt8)==c)=decide ((c.toNat:Int)=93):=by
   rw[Bool.eq_iff_iff,beq_iff_eq,decide_eq_true_iff];constructor
   ·rintro rfl;rfl
   ·intro h;apply UInt8.toNat_inj.1;show 93=_;omega
  simp[List.isPrefixOf,h]
theorem mS(s:ByteArray)(w:World):Calls prog 105 #[.string s,.string ⟨#[91]⟩] w fun e W'=>e=.returned (.bool (decide ((bn s).head? = some 91)))/\W'=w:=by
 have hf:Tryz.laysPre_ren.f 206=105:=by kernel_rfl
 have h:=Any.stringslite_HasPrefix Tryz.laysPre s ⟨#[91]⟩ w;rw[hf]at h;rw[<-OS];exact h
theorem Kj(s:ByteArray)(hs:s.size<=100000)(w:World):Calls prog 161 #[.string s,.string ⟨#[93]⟩] w fun e W'=>e=.returned (.bool (decide ((bn s).getLast? = some 93)))/\W'=w:=by
 have hf:Tryz.laysSuf_ren.f 207=161:=by kernel_rfl
 have h:=Any.stringslite_HasSuffix Tryz.laysSuf s ⟨#[93]⟩ w (by omega);rw[hf]at h;rw[<-Ow];exact h
def zo(s:ByteArray)(e:Ending):Prop:=((bn s).head? = some 91/\e=.returned (.tuple #[.string (s.extract 1 s.size),.bool true]))\/((bn s).head? ≠ some 91/\e=.returned (.tuple #[.string s,.bool false]))
theorem IV(s:ByteArray)(w:World):Calls prog 31 #[.string s,.string ⟨#[91]⟩] w fun e W'=>zo s e/\W'=w:=by
 have HP:=hid (fun W=>mS s W);by_cases h:(bn s).head? = some 91
 ·have HR:Hid (zo s (.returned (.tuple #[.string (s.extract 1 s.size),.bool true]))):=.inl ⟨h,rfl⟩
  have hsz:1<=s.size:=by
   rw[<-aa];cases hb:bn s with
   | nil=>rw[hb]at h;cases h
   | cons _ _=>simp
  have hzz:(1:Int)<=(s.size:Int):=by omega
  rw[decide_eq_true h]at HP;clear h
  have HL:Hid (∀ W,Calls prog 59 #[.string s,.string ⟨#[91]⟩] W fun e W'=>zo s e/\W'=W):=fun W=>by
   obtain⟨p,hp⟩:=Ex' ((⟨#[91]⟩:ByteArray):ByteArray);have hps:p.size=1:=by rw[<-hp];rfl
   rw[hp]at HP ⊢;clear hp;go_enter func59,ntmps59;go_wp2_with(go_at_call 105;refine(HP.out _).mono ?_;rintro e w' ⟨rfl,hw⟩;obtain rfl:=hw.symm);go_ret2;exact⟨HR.out,rfl⟩
  go_enter func31,ntmps31;go_wp2_with fail;refine(HL.out _).mono ?_;rintro e W' ⟨h,rfl⟩;obtain⟨a,b,rfl⟩:∃(a:ByteArray) (b:Bool),e=.returned (.tuple #[.string a,.bool b]):=by rcases h with⟨_,rfl⟩ | ⟨_,rfl⟩ <;> exact⟨_,_,rfl⟩
  have HC:=hid h;clear h;go_wp2;go_ret2;exact⟨HC.out,rfl⟩
 ·have HR:Hid (zo s (.returned (.tuple #[.string s,.bool false]))):=.inr ⟨h,rfl⟩;rw[decide_eq_false h]at HP;clear h;have HL:Hid (∀ W,Calls prog 59 #[.string s,.string ⟨#[91]⟩] W fun e W'=>zo s e/\W'=W):=fun W=>by go_enter func59,ntmps59;go_wp2_with(go_at_call 105;refine(HP.out _).mono ?_;rintro e w' ⟨rfl,hw⟩;obtain rfl:=hw.symm);go_ret2;exact⟨HR.out,rfl⟩
  go_enter func31,ntmps31;go_wp2_with fail;refine(HL.out _).mono ?_;rintro e W' ⟨h,rfl⟩;obtain⟨a,b,rfl⟩:∃(a:ByteArray) (b:Bool),e=.returned (.tuple #[.string a,.bool b]):=by rcases h with⟨_,rfl⟩ | ⟨_,rfl⟩ <;> exact⟨_,_,rfl⟩
  have HC:=hid h;clear h;go_wp2;go_ret2;exact⟨HC.out,rfl⟩
def JP(s:ByteArray)(e:Ending):Prop:=((bn s).getLast? = some 93/\e=.returned (.tuple #[.string (s.extract 0 (s.size - 1)),.bool true]))\/((bn s).getLast? ≠ some 93/\e=.returned (.tuple #[.string s,.bool false]))
theorem Dk(s:ByteArray)(hs:s.size<=100000)(w:World):Calls prog 106 #[.string s,.string ⟨#[93]⟩] w fun e W'=>JP s e/\W'=w:=by
 have HP:=hid (fun W=>Kj s hs W);obtain⟨p,hp⟩:=Ex' ((⟨#[93]⟩:ByteArray):ByteArray);have hps:p.size=1:=by rw[<-hp];rfl
 by_cases h:(bn s).getLast? = some 93
 ·have HR:Hid (JP s (.returned (.tuple #[.string (s.extract 0 (s.size - 1)),.bool true]))):=.inl ⟨h,rfl⟩
  have hsz:1<=s.size:=by
   rw[<-aa];cases hb:bn s with
   | nil=>rw[hb]at h;cases h
   | cons _ _=>simp
  obtain⟨m,hm⟩:∃ m,s.size=m+1:=⟨s.size - 1,by omega⟩;rw[show s.size - 1=m by omega]at HR;have hmz:(s.size:Int) - 1=(m:Int):=by omega
  have hwz:IntKind.i64.wrap ((s.size:Int) - 1)=(m:Int):=by rw[wrap_small _ (by omega) (by omega)];omega
  rw[decide_eq_true h,hp]at HP;rw[hp];clear h hp;go_enter func106,ntmps106;go_wp2_with(go_at_call 161;refine(HP.out _).mono ?_;rintro e w' ⟨rfl,hw⟩;obtain rfl:=hw.symm);go_ret2;exact⟨HR.out,rfl⟩
 ·have HR:Hid (JP s (.returned (.tuple #[.string s,.bool false]))):=.inr ⟨h,rfl⟩;rw[decide_eq_false h,hp]at HP;rw[hp];clear h hp;go_enter func106,ntmps106;go_wp2_with(go_at_call 161;refine(HP.out _).mono ?_;rintro e w' ⟨rfl,hw⟩;obtain rfl:=hw.symm);go_ret2;exact⟨HR.out,rfl⟩
theorem IU(s:ByteArray)(hs:s.size<=100000)(w:World):Calls prog 60 #[.string s,.string ⟨#[93]⟩] w fun e W'=>JP s e/\W'=w:=by
 have HL:=hid (fun W=>Dk s hs W);go_enter func60,ntmps60;go_wp2_with fail;refine(HL.out _).mono ?_;rintro e W' ⟨h,rfl⟩;obtain⟨a,b,rfl⟩:∃(a:ByteArray) (b:Bool),e=.returned (.tuple #[.string a,.bool b]):=by rcases h with⟨_,rfl⟩ | ⟨_,rfl⟩ <;> exact⟨_,_,rfl⟩
 have HC:=hid h;clear h;go_wp2;go_ret2;exact⟨HC.out,rfl⟩
theorem rN(s:ByteArray)(hs:s.size<=400000000)(w:World):Calls prog 36 #[.string s] w fun e W'=>e=.returned (.string s)/\Below w.heap.size w W':=by
 have HL:Hid (∀ W,Calls prog 69 #[.string s] W fun e W'=>e=.returned (.string s)/\Below W.heap.size W W'):=fun W=>by
  have hf:Tryz.laysClo_ren.f 25=69:=by kernel_rfl
  have h:=AnyPu.stringslite_Clone Tryz.laysClo s W (by omega);rw[hf]at h;exact h
 go_enter func36,ntmps36;go_wp2_with fail;refine(HL.out _).mono ?_;rintro e W' ⟨rfl,B⟩;have HB:=hid B;clear B;go_wp2;go_ret;exact⟨rfl,HB.out⟩
theorem pY(s:ByteArray)(i:Nat)(hi:i<s.size)(hx:128<=(s[i]'hi).toNat):
  128<=(Utf8.decode s i).1/\U.ar ((Utf8.decode s i).1:Nat)=true/\1<=(Utf8.decode s i).2/\i+(Utf8.decode s i).2<=s.size/\∀ j b,i<=j->j<i+(Utf8.decode s i).2->s.data.toList[j]? = some b->128<=b.toNat:=by
 obtain⟨h1,h2⟩:=decode_high s i hi hx;have h0:s.data.toList[i]? = some (s[i]'hi):=data_getElem? s i hi;have hl:s.size=s.data.toList.length:=size_eq s;have g0:s.data.toList.getD i 0=s[i]'hi:=by rw[List.getD_eq_getElem?_getD,h0];rfl
 have hgd:∀ j b,s.data.toList[j]? = some b->s.data.toList.getD j 0=b:=fun j b h=>by rw[List.getD_eq_getElem?_getD,h];rfl
 rw[Lib.decode_N]at h1 h2 ⊢;rw[g0]at h1 h2 ⊢;have hb0:=(s[i]'hi).toNat_lt;rcases Lib.decodeN_shape (s.data.toList.length - i) (s[i]'hi).toNat (s.data.toList.getD (i+1) 0).toNat (s.data.toList.getD (i+2) 0).toNat (s.data.toList.getD (i+3) 0).toNat with⟨h,_⟩ | ⟨q0,q1,q2,q3,h⟩ | ⟨q0,q1,q2,q3,q4,q5,h⟩ | ⟨q0,q1,q2,q3,q4,q5,q6,h⟩ | h
 ·omega
 ·rw[h]at h1 h2 ⊢;simp only at h1 h2 ⊢;refine⟨h1,?_,by omega,by omega,fun j b hj1 hj2 hb=>?_⟩
  ·unfold U.ar;exact decide_eq_true (by omega)
  ·have hv:=hgd j b hb;obtain rfl | rfl:j=i\/j=i+1:=by omega
   ·rw[g0]at hv;rw[<-hv];exact hx
   ·rw[hv]at q2;omega
 ·rw[h]at h1 h2 ⊢;simp only at h1 h2 ⊢;refine⟨h1,?_,by omega,by omega,fun j b hj1 hj2 hb=>?_⟩
  ·unfold U.ar;exact decide_eq_true (by omega)
  ·have hv:=hgd j b hb;obtain rfl | rfl | rfl:j=i\/j=i+1\/j=i+2:=by omega
   ·rw[g0]at hv;rw[<-hv];exact hx
   ·rw[hv]at q2;omega
   ·rw[hv]at q3;omega
 ·rw[h]at h1 h2 ⊢;simp only at h1 h2 ⊢;refine⟨h1,?_,by omega,by omega,fun j b hj1 hj2 hb=>?_⟩
  ·unfold U.ar;exact decide_eq_true (by omega)
  ·have hv:=hgd j b hb;obtain rfl | rfl | rfl | rfl:j=i\/j=i+1\/j=i+2\/j=i+3:=by omega
   ·rw[g0]at hv;rw[<-hv];exact hx
   ·rw[hv]at q2;omega
   ·rw[hv]at q3;omega
   ·rw[hv]at q4;omega
 ·rw[h]at h1 h2 ⊢;simp only at h1 h2 ⊢;refine⟨h1,by decide,by omega,by omega,fun j b hj1 hj2 hb=>?_⟩;have hv:=hgd j b hb;obtain rfl:j=i:=by omega
  rw[g0]at hv;rw[<-hv];exact hx
theorem PX(C:ByteArray)(x:UInt8):(U.bn C).contains (x.toNat:Int)=C.data.toList.contains x:=by
 rw[Bool.eq_iff_iff,List.contains_iff_mem,List.contains_iff_mem];unfold U.bn;rw[mem_map];constructor
 ·rintro⟨b,hb,he⟩;have:b=x:=UInt8.toNat_inj.1 (by omega);rw[<-this];exact hb
 ·intro h;exact⟨x,h,rfl⟩
theorem Ly{s C:ByteArray}{i n:Nat}(hA:E.Asc C)(h:Lib.NoAny s.data.toList C.data.toList i)(hh:∀ j b,i<=j->j<i+n->s.data.toList[j]? = some b->128<=b.toNat):Lib.NoAny s.data.toList C.data.toList (i+n):=fun j b hj hb=>by
 by_cases hji:j<i
 ·exact h j b hji hb
 ·have h1:=hh j b (by omega) hj hb;rw[Bool.eq_false_iff];intro hc;have:=hA b (List.contains_iff_mem.1 hc);omega
theorem jH(n:Int)(w:World):Calls prog 181 #[.int .i64 n] w fun e W'=>e=.returned (.bool (decide (8<n)))/\W'=w:=by go_enter func181,ntmps181;go_wp2;go_ret;exact⟨rfl,rfl⟩
theorem kJ{B:Nat}{a w:World}(h:Below B a w){k:Nat}(hk:B<=k)(s:ByteArray)(p:Nat):Below B a (w.iterAt k s p):=by
 refine⟨h.os,h.tape,h.output,?_,fun j hj=>?_⟩
 ·show _<=(w.heap.setIfInBounds k _).size;rw[Array.size_setIfInBounds];exact h.size
 ·show(w.heap.setIfInBounds k _)[j]? = _;rw[Array.getElem?_setIfInBounds,if_neg (by omega)];exact h.block j hj
theorem rR(s C:ByteArray)(h2:2<=C.size)(hz:C.size<=1000)(hA:E.Asc C)(h8:s.size<=8)(w:World):
  Calls prog 120 #[.string s,.string C] w fun e W'=>e=.returned (.int .i64 (Lib.indexAny s.data.toList C.data.toList))/\Below w.heap.size w W':=by
 have hemp:C.toList.isEmpty=false:=by
  rw[Lib.toList_data];cases h:C.data.toList with
  | nil=>have:=size_eq C;rw[h,List.length_nil]at this;omega
  | cons _ _=>rfl
 have hn1:((C.size:Int)==1)=false:=beq_eq_false_iff_ne.2 (by omega);have h8z:decide ((8:Int)<(s.size:Int))=false:=decide_eq_false (by omega);have HA:=hid hA;have HLO:Hid (∀(x:UInt8) W,x.toNat<128->∃ z:Int,decide (0<=z)=C.data.toList.contains x/\Calls prog 180 #[.string C,.int .i32 x.toNat] W fun e W'=>e=.returned (.int .i64 z)/\W'=W):=fun x W hx=>by refine⟨_,?_,E.ku C x.toNat (by omega) (by omega) W⟩;rw[E.jd C x.toNat (by omega) (by omega),PX]
 have HHI:Hid (∀(r:Nat) W,U.ar (r:Int)=true->128<=r->Calls prog 180 #[.string C,.int .i32 r] W fun e W'=>e=.returned (.int .i64 (-1))/\Below W.heap.size W W'):=fun r W hr h1=>by
  by_cases h3:(r:Int)=65533
  ·rw[h3];exact E.lI C hA hz W
  ·exact E.qT C hA hz r hr (by omega) h3 W
 clear hA;go_enter func120,ntmps120;go_wp2_with(go_at_call 181;refine(jH _ _).mono ?_;rintro e w' ⟨rfl,hw⟩;rw[hw,h8z])
 go_loopg [9,10] s.size (fun g _ _ wx=>∃ i:Nat,i+g=s.size/\Hid (wx.heap[w.heap.size]? = some (.stringIter s i))/\Hid (Below w.heap.size w wx)/\Hid (Lib.NoAny s.data.toList C.data.toList i))
 case atStart=>exact⟨0,by omega,World.iter_heap w s 0,(Below.refl _ w).alloc (le_refl _) _,Lib.NoAny.zero _ _⟩
 case round =>
  obtain⟨i,hig,HI,HB,HN⟩:=hrel;by_cases hi:i<s.size
  ·obtain⟨x,hx⟩:=Ex' (s[i]'hi:UInt8);have HX:Hid (s.data.toList[i]? = some x):=by show _=_;rw[<-hx];exact data_getElem? s i hi
   by_cases hxs:x.toNat<128
   ·have hnx:=fun ty=>Lib.run_next_ascii_at (P:=prog) wr w.heap.size s i ty HI.out hi (by rw[hx];exact hxs);rw[hx]at hnx;obtain⟨z,hz1,hz2⟩:=HLO.out x (wr.iterAt w.heap.size s (i+1)) hxs;have HZ:=hid hz2;have HI2:=hid (Lib.iterAt_heap wr w.heap.size s i (i+1) HI.out);have HB2:=hid (kJ HB.out (le_refl _) s (i+1));clear hz2 hx;cases hin:C.data.toList.contains x
    ·rw[hin]at hz1;have hlt:¬ (0:Int)<=z:=of_decide_eq_false hz1;have HN2:=hid (HN.out.succ HX.out hin);clear hz1 hin;go_wp2_with(go_at_call 180;refine HZ.out.mono ?_;rintro e w' ⟨rfl,hw⟩;rw[hw])
     go_roundg (gk - 1)
     case measure=>omega
     case rel=>exact⟨i+1,by omega,HI2,HB2,HN2⟩
    ·rw[hin]at hz1;have hge:(0:Int)<=z:=of_decide_eq_true hz1;have HR:Hid (Lib.indexAny s.data.toList C.data.toList=i):=Lib.indexAny_hit HN.out HX.out hin;clear hz1 hin;go_wp2_with(go_at_call 180;refine HZ.out.mono ?_;rintro e w' ⟨rfl,hw⟩;rw[hw]);go_ret;exact⟨by rw[HR.out];rfl,HB2.out⟩
   ·obtain⟨d1,d2,d3,d4,d5⟩:=pY s i hi (by rw[hx];omega);have hnx:=fun ty=>Lib.run_next_any_at (P:=prog) wr w.heap.size s i ty HI.out hi;obtain⟨r,hr⟩:=Ex' ((Utf8.decode s i).1);obtain⟨n,hn⟩:=Ex' ((Utf8.decode s i).2);rw[hr,hn]at hnx;rw[hr]at d1 d2;rw[hn]at d3 d4 d5;have HZ:=hid (HHI.out r (wr.iterAt w.heap.size s (i+n)) d2 d1);have HI2:=hid (Lib.iterAt_heap wr w.heap.size s i (i+n) HI.out);have HB2:=hid (kJ HB.out (le_refl _) s (i+n));have HN2:=hid (Ly HA.out HN.out d5);clear d1 d2 d5 hr hn hx hxs;go_wp2_with(go_at_call 180;refine HZ.out.mono ?_;rintro e w' ⟨rfl,hw⟩)
    go_roundg (gk - n)
    case measure=>omega
    case rel=>exact⟨i+n,by omega,hid ((hw.block _ (Array.getElem?_eq_some_iff.1 HI2.out).1).trans HI2.out),Bt' HB2 hw,HN2⟩
  ·obtain rfl:i=s.size:=by omega
   have hnx:=fun ty=>Lib.run_next_end_at (P:=prog) wr w.heap.size s s.size ty HI.out (by omega);go_wp2;go_ret;exact⟨by rw[Lib.indexAny_none (by rw[<-size_eq];exact HN.out)];rfl,HB.out⟩
def fbs:ByteArray:=⟨#[0,9,10,13,32,35,47,58,60,62,63,64,91,92,93,94,124]⟩
def fds:ByteArray:=⟨#[0,9,10,13,32,35,47,58,60,62,63,64,91,92,93,94,124,37,127]⟩
theorem Au:E.Asc fbs:=by
 intro b hb;have h:fbs.data.toList.all (fun b=>decide (b.toNat<128))=true:=by decide
 exact of_decide_eq_true (List.all_eq_true.1 h b hb)
theorem MM:∀ n:Fin 256,fbs.data.toList.contains (UInt8.ofNat n.val)=fb (n.val:Int):=by decide +kernel
theorem Qf(x:UInt8):fbs.data.toList.contains x=fb (x.toNat:Int):=by have h:=MM ⟨x.toNat,x.toNat_lt⟩;simpa using h
theorem QF(l:List UInt8):decide (0<=Lib.indexAny l fbs.data.toList)=(l.map (fun c=>(c.toNat:Int))).any fb:=by
 induction l with
 | nil=>rfl
 | cons b l ih =>
  have hge:=Lib.indexAny_ge fbs.data.toList l;rw[Lib.indexAny,map_cons,List.any_cons,<-ih,<-Qf];cases hc:fbs.data.toList.contains b with
  | true=>simp
  | false =>
   simp only[false_eq_true,if_false,Bool.false_or];by_cases h:Lib.indexAny l fbs.data.toList=-1
   ·simp[h]
   ·have h':(Lib.indexAny l fbs.data.toList==-1)=false:=by simpa using h
    rw[h'];simp only[false_eq_true,if_false];rw[decide_eq_true (by omega:0<=Lib.indexAny l fbs.data.toList+1),decide_eq_true (by omega:0<=Lib.indexAny l fbs.data.toList)]
theorem mI(s:ByteArray)(hs:s.size<=100000)(w:World):Calls prog 65 #[.string s,.string ⟨#[0,9,10,13,32,35,47,58,60,62,63,64,91,92,93,94,124]⟩] w fun e W'=>e=.returned (.bool ((bn s).any fb))/\Below w.heap.size w W':=by
 have HL:Hid (∀ W,Calls prog 120 #[.string s,.string ⟨#[0,9,10,13,32,35,47,58,60,62,63,64,91,92,93,94,124]⟩] W fun e W'=>e=.returned (.int .i64 (Lib.indexAny s.data.toList fbs.data.toList))/\Below W.heap.size W W'):=fun W=>by
  by_cases h8:s.size<=8
  ·exact rR s fbs (by decide) (by decide) Au h8 W
  ·have hf:Tryz.laysAny_ren.f 153=120:=by kernel_rfl
   have h:=Any.strings_IndexAny_long Tryz.laysAny (fun w=>by kernel_rfl) (by kernel_rfl) s fbs W (by decide) (by omega) (by omega) (by decide) (fun j b hb=>Au b (mem_of_getElem? hb));rw[hf]at h;refine h.mono ?_;rintro e W' ⟨rfl,rfl⟩;exact⟨rfl,((Below.refl _ _).alloc (le_refl _) _).alloc (by simp) _⟩
 have ha:(bn s).any fb=decide (0<=Lib.indexAny s.data.toList fbs.data.toList):=(QF s.data.toList).symm;rw[ha];obtain⟨z,hz⟩:=Ex' (Lib.indexAny s.data.toList fbs.data.toList);rw[hz]at HL ⊢;clear ha hz;go_enter func65,ntmps65;go_wp2_with fail;refine(HL.out _).mono ?_;rintro e W' ⟨rfl,B⟩;have HB:=hid B;clear B;go_wp2;go_ret;exact⟨rfl,HB.out⟩
theorem MI:∀ n:Fin 128,(decide ((n.val:Int)<32)||(U.bn fds).contains (n.val:Int))=fd (n.val:Int):=by decide +kernel
theorem mH(r:Int)(h0:0<=r)(h1:r<128)(w:World):Calls prog 174 #[.string ⟨#[0,9,10,13,32,35,47,58,60,62,63,64,91,92,93,94,124,37,127]⟩,.int .i32 r] w fun e W'=>e=.returned (.bool ((U.bn fds).contains r))/\W'=w:=by have HR:=hid (fun W=>E.ku fds r h0 h1 W);rw[<-E.jd fds r h0 h1];obtain⟨z,hz⟩:=Ex' (firstIdx fds r.toNat.toUInt8);rw[hz]at HR ⊢;clear hz;unfold fds at HR;go_enter func174,ntmps174;go_wp2_with fail;refine(HR.out _).mono ?_;rintro e W' ⟨rfl,rfl⟩;go_wp2;go_ret;exact⟨rfl,rfl⟩
theorem BK(r:Int)(h0:0<=r)(h1:r<128)(w:World):Calls prog 117 #[.int .i32 r] w fun e W'=>e=.returned (.bool (fd r))/\W'=w:=by
 have hfd:(decide (r<32)||(U.bn fds).contains r)=fd r:=by obtain⟨k,rfl⟩:∃ k:Nat,r=k:=⟨r.toNat,by omega⟩;exact MI ⟨k,by omega⟩
 have HC:=hid (fun W=>mH r h0 h1 W);obtain⟨c,hc⟩:=Ex' ((U.bn fds).contains r);rw[hc]at HC hfd;rw[<-hfd];clear hfd hc;by_cases hl:r<32
 ·rw[decide_eq_true hl];go_enter func117,ntmps117;go_wp2;go_ret;exact⟨rfl,rfl⟩
 ·rw[decide_eq_false hl];go_enter func117,ntmps117;go_wp2_with fail;refine(HC.out _).mono ?_;rintro e W' ⟨rfl,rfl⟩;go_wp2;go_ret;exact⟨rfl,rfl⟩
theorem fO(s:ByteArray)(hs:s.size<=400000000)(hl:∀ c∈bn s,0<=c/\c<128)(w:World):Calls prog 55 #[.string s,.func (.func 117) #[] #[],.bool true] w fun e W'=>(∃ k:Int,e=.returned (.int .i64 k)/\decide (0<=k)=(bn s).any fd)/\Below w.heap.size w W':=by
 have HL:Hid (∀(i:Nat) (h:i<s.size),(s[i]'h).toNat<128/\(bn s)[i]? = some ((s[i]'h).toNat:Int)):=fun i h=>by
  have e:(bn s)[i]? = some ((s[i]'h).toNat:Int):=by unfold bn;rw[getElem?_map,data_getElem? s i h];rfl
  have:=hl _ (mem_of_getElem? e);exact⟨by omega,e⟩
 have HNO:Hid ((∀ j c,j<s.size->(bn s)[j]? = some c->fd c=false)->(bn s).any fd=false):=fun h=>by rw[List.any_eq_false];intro c hc;obtain⟨j,hj,rfl⟩:=List.mem_iff_getElem.1 hc;rw[h j _ (by rw[<-aa];exact hj) (getElem?_eq_getElem hj)];simp
 have HYE:Hid (∀(j:Nat) c,(bn s)[j]? = some c->fd c=true->(bn s).any fd=true):=fun j c h hc=>List.any_eq_true.2 ⟨c,mem_of_getElem? h,hc⟩;have HF:=hid BK;obtain⟨R,hR⟩:=Ex' ((bn s).any fd);rw[hR]at HNO HYE ⊢;clear hl hR;go_enter func55,ntmps55;go_wp2_with fail
 go_loopg [7,8] s.size (fun g _ _ wx=>∃ i:Nat,i+g=s.size/\wx=w.iter s i/\Hid (∀ j c,j<i->(bn s)[j]? = some c->fd c=false))
 case atStart=>exact⟨0,by omega,rfl,fun j c hj=>by omega⟩
 case round =>
  obtain⟨i,hig,rfl,HN⟩:=hrel;cases gk with
  | zero =>
   obtain rfl:i=s.size:=by omega
   have hnx:=run_next_end (P:=prog) w s s.size;have HR:=hid (HNO.out HN.out);go_wp2;go_ret;exact⟨⟨-1,rfl,by rw[HR.out];rfl⟩,Below.alloc (Below.refl _ _) (le_refl _) _⟩
  | succ g =>
   have hi:i<s.size:=by omega
   obtain⟨hx,he⟩:=HL.out i hi;have hnx:=fun ty=>run_next_ascii (P:=prog) w s i ty hi hx;obtain⟨x,hxe⟩:=Ex' ((s[i]'hi).toNat:Nat);rw[hxe]at hx hnx he;have HC:=hid (fun W=>HF.out (x:Int) (by omega) (by omega) W);have HE:=hid he;clear hxe he;cases hfx:fd (x:Int)
   ·rw[hfx]at HC
    have HN2:Hid (∀ j c,j<i+1->(bn s)[j]? = some c->fd c=false):=fun j c hj hc=>by
     by_cases e:j=i
     ·rw[e,HE.out]at hc;rw[<-Option.some.inj hc];exact hfx
     ·exact HN.out j c (by omega) hc
    clear hfx;go_wp2_with(go_at_call 117;refine(HC.out _).mono ?_;rintro e w' ⟨rfl,hw⟩;rw[hw])
    go_roundg g
    case measure=>omega
    case rel=>exact⟨i+1,by omega,rfl,HN2⟩
   ·rw[hfx]at HC;have HR:=hid (HYE.out i _ HE.out hfx);clear hfx;go_wp2_with(go_at_call 117;refine(HC.out _).mono ?_;rintro e w' ⟨rfl,hw⟩;rw[hw]);go_ret;exact⟨⟨i,rfl,by rw[HR.out];exact decide_eq_true (by omega)⟩,Below.alloc (Below.refl _ _) (le_refl _) _⟩
theorem dA(s:ByteArray)(hs:s.size<=400000000)(hl:∀ c∈bn s,0<=c/\c<128)(w:World):Calls prog 15 #[.string s,.func (.func 117) #[] #[]] w fun e W'=>e=.returned (.bool ((bn s).any fd))/\Below w.heap.size w W':=by
 have HI:=hid (fun W=>fO s hs hl W);clear hl;have HJ:Hid (∀ W,Calls prog 28 #[.string s,.func (.func 117) #[] #[]] W fun e W'=>(∃ k:Int,e=.returned (.int .i64 k)/\decide (0<=k)=(bn s).any fd)/\Below W.heap.size W W'):=fun W=>by go_enter func28,ntmps28;go_wp2_with fail;refine(HI.out _).mono ?_;rintro e W' ⟨⟨k,rfl,hk⟩,B⟩;have HB:=hid B;have HK:=hid hk;clear B hk;go_wp2;go_ret;exact⟨⟨k,rfl,HK.out⟩,HB.out⟩
 go_enter func15,ntmps15;go_wp2_with fail;refine(HJ.out _).mono ?_;rintro e W' ⟨⟨k,rfl,hk⟩,B⟩;have HK:=hid hk;have HB:=hid B;clear B hk;go_wp2;go_ret;exact⟨by rw[<-HK.out];rfl,HB.out⟩
abbrev hv(k:Int)(n:ByteArray)(f:Int)(a0 a1 a2 a3 a4 a5 a6 a7:Int):Value:=.agg #[.int .u8 k,.string n,.int .u32 f,.int .u16 a0,.int .u16 a1,.int .u16 a2,.int .u16 a3,.int .u16 a4,.int .u16 a5,.int .u16 a6,.int .u16 a7]
theorem uR(xs:Array Value)(i:Nat)(x:Int)(h:xs[i]? = some (.int .u16 x))(w:World):(part 22 xs i).run prog w=.ok (.int .u16 x) w:=by unfold part;simp[h,go_sem]
theorem wL(d:Nat)(xs ys:Array Value)(f g:Nat->Int)(w:World):∀(L:List Nat),(∀ i∈L,xs[i]? = some (.int .u16 (f i)))->(∀ i∈L,ys[i]? = some (.int .u16 (g i))) ->
  Sem.run prog (forIn L ((none:Option Bool),()) fun i __s=>do
          let a <-part 22 xs (i * 1)
          let b <-part 22 ys (i * 1)
          let r <-Op.equalIn (d+1) 22 a b
          if (!r)=true then pure (ForInStep.done (some false,())) else pure (ForInStep.yield (none,()))) w=.ok ((if L.all (fun i=>f i==g i)=true then none else some false),()) w
 | [],_,_=>by simp
 | i::L,hx,hy=>by
  have ih:=wL d xs ys f g w L (fun j hj=>hx j (by simp[hj])) (fun j hj=>hy j (by simp[hj]));have e:i * 1=i:=Nat.mul_one i;simp only[List.forIn_cons,Sem.run_bind,e,uR xs i _ (hx i (by simp)),uR ys i _ (hy i (by simp)),Result.andThen_ok,run_equalIn_int w d 22 .u16 .u16 _ _ underlying22];cases h:(f i==g i) with
  | true=>simp only[Bool.not_true,false_eq_true,if_false,Sem.run_pure,Result.andThen_ok,List.all_cons,h,Bool.true_and];simpa using ih
  | false=>simp[h]
theorem RP(d:Nat)(xs ys:Array Value)(f g:Nat->Int)(hx:∀ i,i<8->xs[i]? = some (.int .u16 (f i)))(hy:∀ i,i<8->ys[i]? = some (.int .u16 (g i)))(w:World):(Op.equalIn (d+2) 25 (.agg xs) (.agg ys)).run prog w=.ok ((List.range 8).all (fun i=>f i==g i)) w:=by
 have hs:∀ w,(sizeOf 22).run prog w=.ok 1 w:=fun w=>by kernel_rfl
 rw[Op.equalIn];simp only[Sem.run_bind,run_underlying underlying25,Result.andThen_ok,hs];rw[Std.Legacy.Range.forIn_eq_forIn_range'];have e:List.range' ([:8]:Std.Legacy.Range).start ([:8]:Std.Legacy.Range).size ([:8]:Std.Legacy.Range).step=List.range 8:=by decide
 rw[e];have h:=wL d xs ys f g w (List.range 8) (fun i hi=>hx i (List.mem_range.1 hi)) (fun i hi=>hy i (List.mem_range.1 hi));rw[h];simp only[Result.andThen_ok];cases (List.range 8).all (fun i=>f i==g i) <;> simp
theorem aR(t:TypeId)(ht:∀ w,(isAgg t).run prog w=.ok false w)(xs:Array Value)(i:Nat)(x:Value)(h:xs[i]? = some x)(w:World):(part t xs i).run prog w=.ok x w:=by unfold part;simp[h,ht w,Sem.run_bind]
theorem kz(xs:Array Value)(w:World):(part 25 xs 3).run prog w=.ok (.agg (xs.extract 3 11)) w:=by
 have h1:(isAgg 25).run prog w=.ok true w:=by kernel_rfl
 unfold part;simp[h1,Sem.run_bind]
theorem fields_host : ((Tryz.prog.fieldsOf 27).toList.map fun f => (f.type, f.offset, decide (f.name = "_"))) = [(5, 0, false), (9, 1, false), (24, 2, false), (25, 3, false)] := by kernel_rfl
def eqh(k:Int)(n:ByteArray)(f:Int)(a:List Int)(k':Int)(n':ByteArray)(f':Int)(b:List Int):Bool:=(k==k')&&((n.toList==n'.toList)&&((f==f')&&(List.range 8).all (fun i=>a[i]?.getD 0==b[i]?.getD 0)))
theorem MO(k:Int)(n:ByteArray)(f a0 a1 a2 a3 a4 a5 a6 a7 k':Int)(n':ByteArray)(f' b0 b1 b2 b3 b4 b5 b6 b7:Int)(w:World):
  (Op.equalIn 10000 27 (hv k n f a0 a1 a2 a3 a4 a5 a6 a7) (hv k' n' f' b0 b1 b2 b3 b4 b5 b6 b7)).run prog w=.ok (eqh k n f [a0,a1,a2,a3,a4,a5,a6,a7] k' n' f' [b0,b1,b2,b3,b4,b5,b6,b7]) w:=by
 rw[run_equalIn_struct w 9999 27 _ _ (by kernel_rfl) (by kernel_rfl)];have hf:=fields_host;generalize (prog.fieldsOf 27).toList=fs at hf ⊢;match fs,hf with
 | [],hf=>cases hf
 | [_],hf=>simp at hf
 | [_,_],hf=>simp at hf
 | [_,_,_],hf=>simp at hf
 | _::_::_::_::_::_,hf=>simp at hf
 | [f0,f1,f2,f3],hf =>
  simp only[map_cons,List.map_nil,List.cons.injEq,Prod.mk.injEq,decide_eq_false_iff_not,and_true]at hf;obtain⟨⟨t0,o0,n0⟩,⟨t1,o1,n1⟩,⟨t2,o2,n2⟩,⟨t3,o3,n3⟩⟩:=hf;have g8:∀ w,(isAgg 5).run prog w=.ok false w:=fun w=>by kernel_rfl
  have gs:∀ w,(isAgg 9).run prog w=.ok false w:=fun w=>by kernel_rfl
  have g32:∀ w,(isAgg 24).run prog w=.ok false w:=fun w=>by kernel_rfl
  simp only[Op.eqFields,ne_eq,n0,n1,n2,n3,not_false_eq_true,if_true,t0,t1,t2,t3,o0,o1,o2,o3,Sem.run_bind];rw[aR _ g8 _ 0 (.int .u8 k) rfl,Result.andThen_ok,aR _ g8 _ 0 (.int .u8 k') rfl,Result.andThen_ok,run_equalIn_int w 9998 5 .u8 .u8 _ _ underlying5,Result.andThen_ok];unfold eqh;cases hk:(k==k') with
  | false=>simp
  | true =>
   simp only[Bool.not_true,false_eq_true,if_false,Bool.true_and,Sem.run_bind];rw[aR _ gs _ 1 (.string n) rfl,Result.andThen_ok,aR _ gs _ 1 (.string n') rfl,Result.andThen_ok,run_equalIn_string w 9998 9 _ _ underlying9,Result.andThen_ok];cases hn:(n.toList==n'.toList) with
   | false=>simp
   | true =>
    simp only[Bool.not_true,false_eq_true,if_false,Bool.true_and,Sem.run_bind];rw[aR _ g32 _ 2 (.int .u32 f) rfl,Result.andThen_ok,aR _ g32 _ 2 (.int .u32 f') rfl,Result.andThen_ok,run_equalIn_int w 9998 24 .u32 .u32 _ _ underlying24,Result.andThen_ok];cases h4:(f==f') with
    | false=>simp
    | true =>
     simp only[Bool.not_true,false_eq_true,if_false,Bool.true_and,Sem.run_bind];rw[kz,Result.andThen_ok,kz,Result.andThen_ok]
     rw[RP 9997 _ _ (fun i=>([a0,a1,a2,a3,a4,a5,a6,a7])[i]?.getD 0) (fun i=>([b0,b1,b2,b3,b4,b5,b6,b7])[i]?.getD 0) (fun i hi=>by
       obtain rfl | rfl | rfl | rfl | rfl | rfl | rfl | rfl:i=0\/i=1\/i=2\/i=3\/i=4\/i=5\/i=6\/i=7:=by omega
       all_goals rfl) (fun i hi=>by
       obtain rfl | rfl | rfl | rfl | rfl | rfl | rfl | rfl:i=0\/i=1\/i=2\/i=3\/i=4\/i=5\/i=6\/i=7:=by omega
       all_goals rfl),Result.andThen_ok]
     cases ((List.range 8).all fun i=>([a0,a1,a2,a3,a4,a5,a6,a7])[i]?.getD 0==([b0,b1,b2,b3,b4,b5,b6,b7])[i]?.getD 0) <;> simp
theorem wM(k:Int)(n:ByteArray)(f a0 a1 a2 a3 a4 a5 a6 a7 k':Int)(n':ByteArray)(f' b0 b1 b2 b3 b4 b5 b6 b7:Int)(w:World):
  (binOp .eql 27 (hv k n f a0 a1 a2 a3 a4 a5 a6 a7) (hv k' n' f' b0 b1 b2 b3 b4 b5 b6 b7)).run prog w=.ok (.bool (eqh k n f [a0,a1,a2,a3,a4,a5,a6,a7] k' n' f' [b0,b1,b2,b3,b4,b5,b6,b7])) w:=by
 rw[run_eql_struct,MO];rfl
end H
namespace X
open F (hx iG)
theorem kU:∀(l:List Int) (n:Nat),(∀ c∈l,hx c<=15)->l.foldl (fun n c=>n * 16+(hx c).toNat) n<(n+1) * 16 ^ l.length
 | [],n,_=>by simp
 | c::l,n,h=>by have hc:=h c (by simp);have ih:=kU l (n * 16+(hx c).toNat) (fun x hx=>h x (by simp[hx]));have h1:(n * 16+(hx c).toNat+1) * 16 ^ l.length<=((n+1) * 16) * 16 ^ l.length:=Nat.mul_le_mul_right _ (by omega);rw[List.foldl_cons,length_cons,Nat.pow_succ];rw[Nat.mul_assoc,Nat.mul_comm 16]at h1;exact Nat.lt_of_lt_of_le ih h1
theorem uQ{p:List Int}{v:Nat}(h:pc p=some v):v<65536:=by
 unfold pc at h;split at h
 ·rename_i hp;cases h;have:=kU p 0 (fun c _=>(iG c).2);have h2:(0+1) * 16 ^ p.length<=65536:=by rw[zero_add,Nat.one_mul];exact le_trans (Nat.pow_le_pow_right (by decide) hp.2.1) (by decide)
  exact Nat.lt_of_lt_of_le this h2
 ·cases h
theorem IJ{p:List Int}{v:Nat}(h:dn p=some v):v<=255:=by
 unfold dn at h;split at h
 ·rename_i hp;cases h;exact hp.2.2.2.2
 ·cases h
theorem II{p:List Int}{l:List Nat}(h:dt p=some l):Small l:=by
 unfold dt kS at h;split at h
 ·rename_i a b c d e;cases h;have g:∀ x,some x∈(spB 46 p).map dn->x<=255:=fun x hx=>by obtain⟨q,_,hq⟩:=List.mem_map.1 hx;exact IJ hq
  rw[e]at g;have ga:=g a (by simp);have gb:=g b (by simp);have gc:=g c (by simp);have gd:=g d (by simp);intro v hv;simp at hv;rcases hv with rfl | rfl <;> omega
 ·cases h
theorem rh{p:List Int}{l:List Nat}(h:(pc p).map (fun v=>[v])=some l):Small l:=by
 cases hp:pc p with
 | none=>rw[hp]at h;cases h
 | some v =>
  rw[hp]at h;cases h;intro x hx;rw[List.mem_singleton.1 hx];exact uQ hp
theorem BR{last:Bool}{p:List Int}{l:List Nat}(h:lst last p=some l):Small l:=by
 unfold lst at h;split at h
 ·split at h
  ·rename_i e;cases h;exact II e
  ·exact rh h
 ·exact rh h
theorem qX{last:Bool}:∀ {ps:List (List Int)} {l:List Nat},pcs last ps=some l->Small l
 | [],l,h=>by cases h;intro v hv;cases hv
 | [p],l,h=>BR h
 | p::q::r,l,h=>by
  rw[pcs]at h;cases hp:pc p with
  | none=>rw[hp]at h;cases h
  | some v =>
   cases hr:pcs last (q::r) with
   | none=>rw[hp,hr]at h;cases h
   | some m =>
    rw[hp,hr]at h;cases h;intro x hx;rcases List.mem_cons.1 hx with rfl | hx
    ·exact uQ hp
    ·exact qX hr x hx
theorem gH{last:Bool}{s:List Int}{l:List Nat}(h:pieces last s=some l):Small l:=by
 unfold pieces at h;split at h
 ·cases h;intro v hv;cases hv
 ·exact qX h
theorem lJ{s:List Int}{v:List Nat}(h:prs s=some v):Small v:=by
 unfold prs at h;split at h
 ·cases hp:pieces true s with
  | none=>rw[hp]at h;cases h
  | some l =>
   rw[hp]at h;unfold full at h;simp only at h;split at h
   ·cases h;exact gH hp
   ·cases h
 ·split at h
  ·cases hf:pieces false (s.take (cp s)) with
   | none=>rw[hf]at h;cases h
   | some f =>
    cases hb:pieces true (s.drop (cp s+2)) with
    | none=>rw[hf,hb]at h;cases h
    | some b =>
     rw[hf,hb]at h;unfold both at h;simp only at h;split at h
     ·cases h;intro x hx;rw[mem_append,mem_append]at hx;rcases hx with(hx | hx) | hx
      ·exact gH hf x hx
      ·rw[List.eq_of_mem_replicate hx];decide
      ·exact gH hb x hx
     ·cases h
  ·cases h
end X
namespace H
open F (bn)
abbrev hvl(k:Nat)(n:ByteArray)(f:Nat)(a:List Nat):Value:=hv k n f ((a[0]?.getD 0:Nat):Int) ((a[1]?.getD 0:Nat):Int) ((a[2]?.getD 0:Nat):Int) ((a[3]?.getD 0:Nat):Int) ((a[4]?.getD 0:Nat):Int) ((a[5]?.getD 0:Nat):Int) ((a[6]?.getD 0:Nat):Int) ((a[7]?.getD 0:Nat):Int)
def qw(A:List Int->List Int->Int->Prop)(l:List Int)(sp:Bool)(w:World)(e:Ending)(W':World):Prop :=
 (∃(h:Hst) (n:ByteArray),HP A l sp h/\bn n=h.2.1/\e=.returned (.tuple #[hvl h.1 n h.2.2.1 h.2.2.2.1,.int .i64 h.2.2.2.2]))/\Below w.heap.size w W'
def mK(h:Hst)(w:World)(e:Ending)(W':World):Prop:=(∃ t,e=.returned (.string t)/\bn t=txt h)/\Below w.heap.size w W'
def May(A:List Int->List Int->Int->Prop)(h:Hst)(b:Bool):Prop :=
 if h=non 0 then b=true else if 4096<(txt h).length then b=false else ∃ x,HP A (txt h) (decide (h.1≠4)) x/\b=decide (x.2.2.2.2=0/\(x.1,x.2.1,x.2.2.1,x.2.2.2.1)=(h.1,h.2.1,h.2.2.1,h.2.2.2.1)/\x.1≠0)
theorem dN:X.Small z8:=by unfold X.Small z8;decide
theorem yr{W W':World}{g:Nat}{o:Obj}(h:W.heap[g]? = some o)(hB:Below W.heap.size W W'):W'.heap[g]? = some o:=by have hl:g<W.heap.size:=(Array.getElem?_eq_some_iff.1 h).1;rw[hB.block g hl,h]
theorem oT{W:World}{g:Nat}{o:Obj}(h:W.heap[g]? = some o)(o':Obj):(W.alloc o').heap[g]? = some o:=yr h ((Below.refl _ W).alloc (le_refl _) o')
end H
namespace Cn
open H (Hst May non)
def okn(l:List Int):Bool:=decide (l.length<=253)&&(F.spl l).all (fun p=>decide (0<p.length/\p.length<=63))
def und(l:List Int):List Int:=if l.getLast? = some 46 then l.dropLast else l
def ch(h:Hst)(m:Bool):Hst :=
 if m=false\/h.1=0\/h.1=4 then non 70 else if h.1≠1 then (h.1,h.2.1,h.2.2.1,h.2.2.2.1,0) else if okn (und h.2.1)=true then (1,und h.2.1,h.2.2.1,h.2.2.2.1,0) else non 70
def CH(A:List Int->List Int->Int->Prop)(h r:Hst):Prop:=∃ b,May A h b/\r=ch h b
structure qy(A:List Int->List Int->Int->Prop):Prop where
 cut:∀ {t:List Int},U.Bytes t->A (t++[46]) (t++[46]) 0->A t t 0
 add:∀ {s t:List Int},U.Bytes s->A s t 0->A (s++[46]) (t++[46]) 0
end Cn
namespace Y
def ltr(c:Int):Bool:=decide (65<=c/\c<=90\/97<=c/\c<=122)
def low(c:Int):Int:=if 65<=c/\c<=90 then c+32 else c
def sgs(c:Int):Bool:=ltr c||decide (48<=c/\c<=57\/c=43\/c=45\/c=46)
def blk(c:Int):Bool:=decide (c<=32)
def tab(c:Int):Bool:=decide (c=9\/c=10\/c=13)
def sl(sp:Bool)(c:Int):Bool:=decide (c=47)||(sp&&decide (c=92))
def qm(c:Int):Bool:=decide (c=63)||decide (c=35)
def strip(l:List Int):List Int:=((l.dropWhile blk).reverse.dropWhile blk).reverse
def cln(s:List Int):List Int:=U.aj ((strip (U.dec s)).filter (fun c=>!tab c))
def sch:List Int->Option (List Int×List Int)
 | []=>none
 | c::t=>if ltr c=true then (match t.dropWhile sgs with | d::r=>if d=58 then some ((c::t.takeWhile sgs).map low,r) else none | []=>none) else none
def aN:List Int:=[104,116,116,112]
def bG:List Int:=[104,116,116,112,115]
def nWs:List Int:=[119,115]
def PA:List Int:=[119,115,115]
def PB:List Int:=[102,116,112]
def di:List Int:=[102,105,108,101]
def own(m:List Int):Option Nat:=if m=aN\/m=nWs then some 80 else if m=bG\/m=PA then some 443 else if m=PB then some 21 else none
structure Ur where
 sch:List Int
 usr:List Int
 pas:List Int
 hh:Bool
 hst:Nat×List Int×Nat×List Nat
 hp:Bool
 prt:Nat
 opq:Bool
 pth:List (List Int)
 bod:List Int
 hq:Bool
 qry:List Int
 hf:Bool
 frg:List Int
def zu:Ur:=⟨[],[],[],false,(0,[],0,H.z8),false,0,false,[],[],false,[],false,[]⟩
def fr(u:Ur):List Int->Ur
 | []=>u
 | _::r=>{ u with hf:=true,frg:=E.en 1 (U.dec r) }
def kD(c:Int):Bool:=decide (c≠35)
def qf(sp:Bool)(u:Ur):List Int->Ur
 | []=>u
 | c::r=>if c=63 then fr { u with hq:=true,qry:=E.en (if sp=true then 3 else 2) (U.dec (r.takeWhile kD)) } (r.dropWhile kD) else fr u (c::r)
def spl(f:Int->Bool):List Int->List (List Int)
 | []=>[[]]
 | c::t=>if f c=true then []::spl f t else (match spl f t with | a::r=>(c::a)::r | []=>[[c]])
def dot:List Int->List Int
 | []=>[]
 | [a]=>[a]
 | [a,b]=>[a,b]
 | c::a::b::t=>if c=37/\a=50/\(b=101\/b=69) then 46::dot t else c::dot (a::b::t)
def nrm(acc:List (List Int)):List (List Int)->List (List Int)
 | []=>acc
 | x::t =>
  if dot x=[46] then nrm (if t=[] then acc++[[]] else acc) t
  else if dot x=[46,46] then nrm (if t=[] then acc.dropLast++[[]] else acc.dropLast) t
  else nrm (acc++[E.en 4 (U.dec x)]) t
def un(f:Int->Bool):List Int->List Int
 | []=>[]
 | c::t=>if f c=true then t else c::t
def lst(sp:Bool)(p:List Int):List (List Int):=nrm [] (spl (sl sp) (un (sl sp) p))
def npq(c:Int):Bool:=!qm c
def tl(sp has:Bool)(u:Ur)(l:List Int):Ur :=
 qf sp (if sp=true\/(l.takeWhile npq).head? = some 47 then { u with pth:=lst sp (l.takeWhile npq) } else if has=true then u else { u with opq:=true,bod:=E.en 0 (U.dec (l.takeWhile npq)) }) (l.dropWhile npq)
def nau(sp:Bool)(c:Int):Bool:=!(sl sp c||qm c)
def oP(c:Int):Bool:=decide (c≠64)
def fL(c:Int):Bool:=decide (c≠58)
def beh(a:List Int):List Int:=(a.reverse.takeWhile oP).reverse
def ahd(a:List Int):List Int:=((a.reverse.dropWhile oP).drop 1).reverse
def hcut:Bool->List Int->List Int×Option (List Int)
 | _,[]=>([],none)
 | b,c::t=>if c=58/\b=false then ([],some t) else (c::(hcut (if c=91 then true else if c=93 then false else b) t).1,(hcut (if c=91 then true else if c=93 then false else b) t).2)
def ask(sp:Bool)(a:List Int):Option (List Int) :=
 if 64∈a/\beh a=[] then none else if (hcut false (beh a)).1=[]/\((hcut false (beh a)).2.isSome=true\/sp=true) then none else some (hcut false (beh a)).1
def por(o:Option Nat):Option (List Int)->Option (Bool×Nat)
 | none=>some (false,0)
 | some p=>if p=[] then some (false,0) else if p.all F.ten=true/\F.vl 10 p<=65535 then (if o=some (F.vl 10 p) then some (false,0) else some (true,F.vl 10 p)) else none
def ath(m:List Int)(a:List Int)(h:H.Hst):Ur×Int :=
 if ask (own m).isSome a=none then (zu,70) else if h.2.2.2.2≠0 then (zu,h.2.2.2.2) else
 match por (own m) (hcut false (beh a)).2 with
 | none=>(zu,131)
 | some q=>({ zu with sch:=m,usr:=if 64∈a then E.en 5 (U.dec ((ahd a).takeWhile fL)) else [],pas:=if 64∈a then E.en 5 (U.dec (((ahd a).dropWhile fL).drop 1)) else [],hh:=true,hst:=(h.1,h.2.1,h.2.2.1,h.2.2.2.1),hp:=q.1,prt:=q.2 },0)
def aus(m:List Int)(r:List Int):Option (List Int) :=
 if (own m).isSome=true then some (r.dropWhile (sl true)) else if r.take 2=[47,47] then some (r.drop 2) else none
def hqy(l:List Int):Option (List Int×Bool) :=
 match sch l with
 | none=>none
 | some (m,r)=>if m=di then none else match aus m r with
  | none=>none
  | some b=>(ask (own m).isSome (b.takeWhile (nau (own m).isSome))).map (fun x=>(x,(own m).isSome))
def rdc(l:List Int)(h:H.Hst):Ur×Int :=
 match sch l with
 | none=>(zu,130)
 | some (m,r)=>if m=di then (zu,130) else match aus m r with
  | none=>(tl false false { zu with sch:=m } r,0)
  | some b=>if (ath m (b.takeWhile (nau (own m).isSome)) h).2≠0 then (zu,(ath m (b.takeWhile (nau (own m).isSome)) h).2) else
   (tl (own m).isSome true (ath m (b.takeWhile (nau (own m).isSome)) h).1 (b.dropWhile (nau (own m).isSome)),0)
def UP(A:List Int->List Int->Int->Prop)(s:List Int)(r:Ur×Int):Prop :=
 if 4096<s.length then r=(zu,4) else ∃ h,(∀ x sp,hqy (cln s)=some (x,sp)->H.HP A x sp h)/\r=rdc (cln s) h
theorem fG{f:Int->Bool}{p q:List Int}(hp:∀ c∈p,f c=true)(hq:q=[]\/∃ d r,q=d::r/\f d=false):(p++q).takeWhile f=p/\(p++q).dropWhile f=q:=by
 rw[List.takeWhile_append_of_pos hp,List.dropWhile_append_of_pos hp];rcases hq with rfl | ⟨d,r,rfl,hd⟩
 ·simp
 ·rw[List.takeWhile_cons_of_neg (by rw[hd];simp),List.dropWhile_cons_of_neg (by rw[hd];simp)];simp
theorem gB{f:Int->Bool}:∀ {l:List Int} {c:Int},c∈l.takeWhile f->f c=true/\c∈l
 | [],c,h=>by simp at h
 | d::l,c,h=>by
  rw[List.takeWhile_cons]at h;split at h
  ·rename_i hd;rcases List.mem_cons.1 h with rfl | h
   ·exact⟨hd,by simp⟩
   ·have:=gB h;exact⟨this.1,by simp[this.2]⟩
  ·simp at h
theorem yL{f:Int->Bool}{l:List Int}{c:Int}(h:c∈l.dropWhile f):c∈l:=(List.dropWhile_suffix f).subset h
def Sg(m:List Int):Prop:=∃ c t,m=c::t/\97<=c/\c<=122/\∀ d∈t,sgs d=true/\low d=d/\33<=d/\d<=126
theorem LZ(d:Int):low (low d)=low d:=by unfold low;(repeat' split) <;> omega
theorem zK{d:Int}(h:sgs d=true):sgs (low d)=true/\33<=low d/\low d<=126:=by unfold sgs ltr at *;simp only[Bool.or_eq_true,decide_eq_true_eq]at *;unfold low;split <;> omega
theorem Oz{l m r:List Int}(h:sch l=some (m,r)):Sg m/\∃ p,l=p++58::r:=by
 cases l with
 | nil=>cases h
 | cons c t =>
  simp only[sch]at h;split at h
  ·rename_i hc;split at h
   ·rename_i d r' hd;split at h
    ·rename_i h58;cases h;refine⟨⟨low c,(t.takeWhile sgs).map low,by simp,?_,?_,?_⟩,c::t.takeWhile sgs,?_⟩
     ·unfold ltr at hc;have:=of_decide_eq_true hc;unfold low;split <;> omega
     ·unfold ltr at hc;have:=of_decide_eq_true hc;unfold low;split <;> omega
     ·intro d hd;obtain⟨x,hx,rfl⟩:=List.mem_map.1 hd;have h1:=zK (gB hx).1;exact⟨h1.1,LZ x,h1.2⟩
     ·have:=List.takeWhile_append_dropWhile (p:=sgs) (l:=t);rw[hd,h58]at this;rw[List.cons_append,this]
    ·cases h
   ·cases h
  ·cases h
theorem aV(f:Int->Bool)(l:List Int):spl f l≠[]:=by
 cases l with
 | nil=>simp[spl]
 | cons c t =>
  unfold spl;split
  ·simp
  ·split <;> simp
theorem kn{f:Int->Bool}:∀ {l x:List Int},x∈spl f l->∀ c∈x,f c=false/\c∈l
 | [],x,h,c,hc=>by
  simp[spl]at h;rw[h]at hc;simp at hc
 | d::t,x,h,c,hc=>by
  unfold spl at h;split at h
  ·rcases List.mem_cons.1 h with rfl | h
   ·simp at hc
   ·have:=kn h c hc;exact⟨this.1,by simp[this.2]⟩
  ·rename_i hd;have hd':f d=false:=by simpa using hd
   split at h
   ·rename_i a r hs;rcases List.mem_cons.1 h with rfl | h
    ·rcases List.mem_cons.1 hc with rfl | hc
     ·exact⟨hd',by simp⟩
     ·have:=kn (l:=t) (x:=a) (by rw[hs];simp) c hc;exact⟨this.1,by simp[this.2]⟩
    ·have:=kn (l:=t) (x:=x) (by rw[hs];simp[h]) c hc;exact⟨this.1,by simp[this.2]⟩
   ·rename_i hs;exact absurd hs (aV f t)
theorem cn{f:Int->Bool}:∀ {p:List Int},(∀ c∈p,f c=false)->∀ {d:Int} {q:List Int},f d=true->spl f (p++d::q)=p::spl f q
 | [],_,d,q,hd=>by
  show spl f (d::q)=_;rw[spl,if_pos hd]
 | c::p,hp,d,q,hd=>by show spl f (c::(p++d::q))=_;have hc:f c=false:=hp c (by simp);rw[spl,if_neg (by rw[hc];simp),cn (fun x hx=>hp x (by simp[hx])) hd]
theorem dE{f:Int->Bool}:∀ {p:List Int},(∀ c∈p,f c=false)->spl f p=[p]
 | [],_=>rfl
 | c::p,hp=>by have hc:f c=false:=hp c (by simp);rw[spl,if_neg (by rw[hc];simp),dE (fun x hx=>hp x (by simp[hx]))]
theorem Dd{c:Int}(h:U.ar c=true):∃ b t,U.enc c=b::t/\(c<128->b=c)/\(128<=c->192<=b):=by
 have hb:=E.aS h;unfold U.enc;split
 ·exact⟨_,_,rfl,fun _=>rfl,fun h=>by omega⟩
 ·split
  ·exact⟨_,_,rfl,fun h=>by omega,fun h=>by omega⟩
  ·split
   ·exact⟨_,_,rfl,fun h=>by omega,fun h=>by omega⟩
   ·exact⟨_,_,rfl,fun h=>by omega,fun h=>by omega⟩
theorem IF{c:Int}(h:U.ar c=true):∃ b,(U.enc c).getLast? = some b/\(c<128->b=c)/\(128<=c->128<=b):=by
 have hb:=E.aS h;unfold U.enc;split
 ·exact⟨_,rfl,fun _=>rfl,fun h=>by omega⟩
 ·split
  ·exact⟨128+c % 64,rfl,fun h=>by omega,fun h=>by omega⟩
  ·split
   ·exact⟨128+c % 64,rfl,fun h=>by omega,fun h=>by omega⟩
   ·exact⟨128+c % 64,rfl,fun h=>by omega,fun h=>by omega⟩
theorem qN{l:List Int}{c:Int}(h:c∈strip l):c∈l:=by unfold strip at h;exact yL (List.mem_reverse.1 (yL (List.mem_reverse.1 h)))
theorem IZ{s:List Int}(hs:U.Bytes s):∀ c∈(strip (U.dec s)).filter (fun c=>!tab c),U.ar c=true:=fun c hc=>List.all_eq_true.1 (U.dm s.length s (le_refl _) hs) c (qN (List.mem_filter.1 hc).1)
theorem cY{L:List Int}(h:∀ c∈L,U.ar c=true):U.Bytes (U.aj L):=by intro b hb;obtain⟨c,hc,hbc⟩:=List.mem_flatMap.1 (show b∈L.flatMap U.enc from hb);have:=E.aS (h c hc);exact U.cL c this.1 this.2 b hbc
theorem Dq{s:List Int}(hs:U.Bytes s):U.Bytes (cln s):=cY (IZ hs)
end Y
namespace Cn
open H (Hst HP non)
open Y (UP Ur aN bG own)
def bad(c:Int):Bool:=decide (c<=32)||decide (c=127)
def nc(c:Int):Bool:=decide (c≠58)&&decide (c≠93)
def dD(s:List Int):List Int×Option (List Int) :=
 if (s.reverse.dropWhile nc).head? = some 58 then (((s.reverse.dropWhile nc).drop 1).reverse,some (s.reverse.takeWhile nc).reverse) else (s,none)
def fin(h:Hst)(p:Nat)(e:Int):Hst×Nat:=if h.2.2.2.2≠0 then (non h.2.2.2.2,0) else if p=0 then (non e,0) else (h,p)
def uh(u:Ur):Hst:=(u.hst.1,u.hst.2.1,u.hst.2.2.1,u.hst.2.2.2,0)
def AB(A:List Int->List Int->Int->Prop)(s:List Int)(r:Hst×Nat):Prop :=
 ∃ u e,UP A s (u,e)/\(if e≠0 then r=(non e,0) else if u.sch≠aN/\u.sch≠bG then r=(non 130,0) else if u.usr≠[]\/u.pas≠[] then r=(non 140,0) else ∃ h,CH A (uh u) h/\r=fin h (if u.hp=true then u.prt else (own u.sch).getD 0) 131)
def pt(p:List Int):Nat:=if 1<=p.length/\p.length<=5/\p.all F.ten=true/\F.vl 10 p<=65535 then F.vl 10 p else 0
def AU(A:List Int->List Int->Int->Prop)(s:List Int)(q:Nat)(r:Hst×Nat):Prop :=
 if 4096<s.length then r=(non 4,0) else if s.any bad=true then r=(non 70,0) else if 64∈s then r=(non 140,0) else
 ∃ x,HP A (dD s).1 true x/\(if x.2.2.2.2≠0 then r=(non 70,0) else ∃ h,CH A x h/\(if h.2.2.2.2≠0 then r=(non 70,0) else match (dD s).2 with | none=>r=fin h q 5 | some p=>r=fin h (pt p) 131))
def ttx(h:Hst)(p:Nat):List Int:=H.txt h++58::F.wr 10 p
end Cn
end Go.Proofs.YtmkompnhefhngaaGreatDoor
namespace Go.Proofs
open Go.Shelf Go.RowKit
shelf_lay Lays.n148 Nm 148 at Tryz as Tryz.laysLasC
shelf_lay LaysGw.n17 Ggw 17 at Tryz as Tryz.laysCoF
end Go.Proofs
namespace Go.Proofs.YtmkompnhefhngaaGreatDoor
open Tryz Go.RowKit
namespace Cn
open Go.RowKit Go.Lib
open F (bn aa hid)
theorem RM(b:UInt8)(t:ByteArray):decide (0<=Lib.indexByte t.data.toList b)=decide ((b.toNat:Int)∈bn t):=by
 apply decide_eq_decide.2;have hm:(b.toNat:Int)∈bn t↔b∈t.data.toList:=X.du (b:=b) (l:=t.data.toList);rw[hm];have hge:=Lib.indexByte_ge t.data.toList b;constructor
 ·intro h;obtain⟨i,hi⟩:∃ i:Nat,Lib.indexByte t.data.toList b=i:=⟨(Lib.indexByte t.data.toList b).toNat,by omega⟩;exact mem_of_getElem? (Lib.indexByte_some hi).1
 ·intro h;by_cases hm:Lib.indexByte t.data.toList b=-1
  ·obtain⟨j,hj,e⟩:=List.mem_iff_getElem.1 h;exact absurd (by rw[getElem?_eq_getElem hj,e]) (Lib.indexByte_none hm j)
  ·omega
theorem nj(t:ByteArray)(b:UInt8)(w:World):Calls prog 17 #[.string t,.string ⟨#[b]⟩] w fun e W'=>e=.returned (.bool (decide ((b.toNat:Int)∈bn t)))/\W'=w:=by
 have hf:Tryz.laysConX_ren.f 144=17:=by kernel_rfl
 have h:=Any.strings_Contains_one Tryz.laysConX t b w;rw[hf,RM]at h;exact h
theorem Mg(s:ByteArray)(b:UInt8):∃ k:Nat,k<=s.size/\Lib.lastIndexByte s (b.toNat:Int)=(k:Int) - 1/\¬ (b.toNat:Int)∈(bn s).drop k/\(k=0\/(bn s).take k=(bn s).take (k - 1)++[(b.toNat:Int)]):=by
 have hl:=aa s;rcases Lib.lastIndexByte_spec s (b.toNat:Int) with⟨h1,h2⟩ | ⟨i,hi,h1,h2,h3⟩
 ·refine⟨0,zero_le _,by rw[h1];rfl,?_,.inl rfl⟩;rw[drop_zero];intro h;obtain⟨j,hj,e⟩:=List.mem_iff_getElem.1 h;have:=h2 j (by omega);rw[X.jj s j (by omega),getElem?_eq_getElem hj]at this;exact this e
 ·refine⟨i+1,by omega,by rw[h1];omega,?_,.inr ?_⟩
  ·intro h;obtain⟨j,hj,e⟩:=List.mem_iff_getElem.1 h;rw[length_drop]at hj;rw[List.getElem_drop]at e;have:=h3 (i+1+j) (by omega) (by omega);rw[X.jj s _ (by omega),getElem?_eq_getElem (by omega)]at this;exact this e
  ·rw[X.lD _ _ (by omega),<-X.jj s i hi,h2];rfl
def tX(b:UInt8)(f:ByteArray->Bool)(s:ByteArray)(e:Ending):Prop:=∃ k:Nat,k<=s.size/\¬ (b.toNat:Int)∈(bn s).drop k/\(k=0\/(bn s).take k=(bn s).take (k - 1)++[(b.toNat:Int)]) /\
 (((k=0\/f (s.extract k s.size)=false)/\e=.returned (.tuple #[.string s,.string ⟨#[]⟩,.bool false])) \/
  (1<=k/\f (s.extract k s.size)=true/\e=.returned (.tuple #[.string (s.extract 0 (k - 1)),.string (s.extract k s.size),.bool true])))
theorem Ce(s:ByteArray)(b:UInt8)(hs:s.size<=400000000)(w:World):Calls prog 30 #[.string s,.string ⟨#[b]⟩] w fun e W'=>e=.returned (.int .i64 (Lib.lastIndexByte s (b.toNat:Int)))/\W'=w:=by
 have hf:Tryz.laysLasC_ren.f 148=30:=by kernel_rfl
 have h:=Any.strings_LastIndex_one Tryz.laysLasC s ⟨#[b]⟩ rfl (by omega) w;rw[hf]at h;exact h
theorem dp(g:Nat)(eg:∀ args w,(callFunc g args).run prog w=.ok (.enter g args) w)(s:ByteArray)(b:UInt8)(f:ByteArray->Bool)(hs:s.size<=400000000)(w:World)(hp:∀(t:ByteArray) (W:World),t.size<=400000000->Calls prog g #[.string t] W fun e W'=>e=.returned (.bool (f t))/\W'=W):
  Calls prog 18 #[.string s,.string ⟨#[b]⟩,.func (.func g) #[] #[]] w fun e W'=>tX b f s e/\Below w.heap.size w W':=by
 obtain⟨k,hk,hl,hn,ht⟩:=Mg s b;have HL:=hid (Ce s b (by omega))
 have HM:Hid (∀ e,(((k=0\/f (s.extract k s.size)=false)/\e=.returned (.tuple #[.string s,.string ⟨#[]⟩,.bool false])) \/
  (1<=k/\f (s.extract k s.size)=true/\e=.returned (.tuple #[.string (s.extract 0 (k - 1)),.string (s.extract k s.size),.bool true])))->tX b f s e):=fun e h=>⟨k,hk,hn,ht,h⟩
 have HP:=hid (fun W=>hp (s.extract k s.size) W (by simp;omega));obtain⟨R,hR⟩:=Ex' (tX b f s);obtain⟨v,hv⟩:=Ex' (f (s.extract k s.size));rw[hR,hv]at HM;rw[hR];rw[hv]at HP;rw[hl]at HL;clear hR hv hp hl hn ht;rcases Nat.eq_zero_or_pos k with h0 | h0
 ·subst h0;have HM1:=hid (HM.out _ (.inl ⟨.inl rfl,rfl⟩));clear HM HP;go_enter func18,ntmps18;go_wp2_with(go_at_call 30;refine(HL.out _).mono ?_;rintro e w1 ⟨rfl,h1⟩;obtain rfl:=h1.symm);go_ret3;exact⟨HM1.out,Below.refl _ _⟩
 ·obtain⟨j,rfl⟩:∃ j,k=j+1:=⟨k - 1,by omega⟩;have hjs:(j:Int)<(s.size:Int):=by omega
  have e1:((j+1:Nat):Int) - 1=(j:Int):=by omega
  rw[e1]at HL;cases v with
  | false =>
   have HM1:=hid (HM.out _ (.inl ⟨.inr rfl,rfl⟩));clear HM;go_enter func18,ntmps18
   go_wp2_with(first
     | (go_at_call 30;refine(HL.out _).mono ?_;rintro e w1 ⟨rfl,h1⟩;obtain rfl:=h1.symm)
     | (go_at_fn g;refine(HP.out _).mono ?_;rintro e w1 ⟨rfl,h1⟩;obtain rfl:=h1.symm))
   go_ret3;exact⟨HM1.out,Below.refl _ _⟩
  | true =>
   have HM1:=hid (HM.out _ (.inr ⟨by omega,rfl,rfl⟩));rw[show j+1 - 1=j from rfl]at HM1;clear HM;go_enter func18,ntmps18
   go_wp2_with(first
     | (go_at_call 30;refine(HL.out _).mono ?_;rintro e w1 ⟨rfl,h1⟩;obtain rfl:=h1.symm)
     | (go_at_fn g;refine(HP.out _).mono ?_;rintro e w1 ⟨rfl,h1⟩;obtain rfl:=h1.symm))
   go_region
   all_goals (
     go_wp2
     go_ret3
     exact⟨HM1.out,(Below.refl _ _).drew⟩)
def bdp(x:Nat):Bool:=decide (x<=32)||decide (x=127)
theorem Jk(w:World):PredGrows prog 16 #[] bdp w:=fun W x hx hb=>by
 show Calls prog 16 #[.int .i32 (x:Int)] W _;have hd:bdp x=(decide ((x:Int)<=32)||decide ((x:Int)=127)):=by unfold bdp;rw[Bool.eq_iff_iff];simp;omega
 rw[hd];clear hd;go_enter func16,ntmps16;go_wp2;all_goals (go_ret;exact⟨by first | rfl | simp_all,Below.refl _ _⟩)
theorem ta(s:ByteArray):∀(f pos:Nat),s.size<=pos+f->decide (0<=idxFuncFrom bdp true s f pos)=((bn s).drop pos).any bad
 | 0,pos,h=>by
  rw[List.drop_eq_nil_of_le (by rw[aa];omega)];rfl
 | f+1,pos,h=>by
  by_cases hp:pos<s.size
  ·have hd:(bn s).drop pos=((s[pos]'hp).toNat:Int)::(bn s).drop (pos+1):=U.jm s pos hp;have h0:s.data.toList[pos]? = some (s[pos]'hp):=data_getElem? s pos hp;have g0:s.data.toList.getD pos 0=s[pos]'hp:=by rw[List.getD_eq_getElem?_getD,h0];rfl
   rw[idxFuncFrom,if_pos hp];by_cases hx:(s[pos]'hp).toNat<128
   ·have e:Utf8.decode s pos=((s[pos]'hp).toNat,1):=by rw[Lib.decode_N,g0,Lib.decodeN_ascii _ _ _ _ _ hx]
    have hb:bad ((s[pos]'hp).toNat:Int)=bdp (s[pos]'hp).toNat:=by unfold bad bdp;rw[Bool.eq_iff_iff];simp;omega
    rw[e,hd,List.any_cons,hb];have ih:=ta s f (pos+1) (by omega);rw[<-ih];by_cases hv:bdp (s[pos]'hp).toNat=true
    ·simp[hv]
    ·simp[hv]
   ·obtain⟨h1,h2,h3,h4,h5⟩:=H.pY s pos hp (by omega);obtain⟨n,hn⟩:=Ex' ((Utf8.decode s pos).2);rw[hn]at h3 h4 h5 ⊢;have hv:bdp (Utf8.decode s pos).1=false:=by unfold bdp;rw[decide_eq_false (by omega),decide_eq_false (by omega)];rfl
    have ht:(bn s).drop pos=((bn s).drop pos).take n++(bn s).drop (pos+n):=by rw[<-List.drop_drop,take_append_drop]
    have hl:(((bn s).drop pos).take n).length=n:=by rw[length_take,length_drop,aa];omega
    have ha:(((bn s).drop pos).take n).any bad=false:=by
     rw[List.any_eq_false];intro c hc;obtain⟨j,hj,rfl⟩:=List.mem_iff_getElem.1 hc;rw[hl]at hj;rw[List.getElem_take,List.getElem_drop];have hjs:pos+j<s.size:=by omega
     have hb:=h5 (pos+j) (s[pos+j]'hjs) (by omega) (by omega) (data_getElem? s _ hjs);have hg:(bn s)[pos+j]'(by rw[aa];exact hjs)=((s[pos+j]'hjs).toNat:Int):=by apply Option.some.inj;rw[<-getElem?_eq_getElem];unfold bn;rw[getElem?_map,data_getElem? s _ hjs];rfl
     rw[hg];unfold bad;rw[decide_eq_false (by omega),decide_eq_false (by omega)];simp
    rw[hv,if_neg (by simp),ta s f (pos+n) (by omega),ht,List.any_append,ha,Bool.false_or]
  ·rw[List.drop_eq_nil_of_le (by rw[aa];omega),idxFuncFrom_end _ _ _ _ _ hp];rfl
theorem Jj(s:ByteArray)(hs:s.size<=400000000)(w:World):Calls prog 15 #[.string s,.func (.func 16) #[] #[]] w fun e W'=>e=.returned (.bool ((bn s).any bad))/\Below w.heap.size w W':=by
 have hf:Tryz.laysCoF_ren.f 17=15:=by kernel_rfl
 have h:=Any.strings_ContainsFunc_grows Tryz.laysCoF 16 #[] (enters_of func16 (by kernel_rfl) rfl) bdp s w (Jk w);have h2:=ta s s.size 0 (by omega);rw[drop_zero]at h2;rw[hf]at h;refine h.mono ?_;rintro e W' ⟨rfl,hb⟩;exact⟨by rw[<-h2];rfl,hb⟩
end Cn
namespace F
def vv(c:Int):Int:=if hx c<0 then 16 else hx c
theorem fW(c:Int)(h0:0<=c)(h1:c<=255)(w:World):Calls prog 246 #[.int .u8 c] w fun e W'=>e=.returned (.int .u64 (vv c))/\W'=w:=by
 by_cases a1:48<=c/\c<=57
 ·obtain⟨x1,x2⟩:=a1;have hv:vv c=c - 48:=by unfold vv hx;(repeat' split) <;> omega
  rw[hv];clear hv;go_enter func246,ntmps246;go_wp2;go_ret;exact⟨dG (by omega),rfl⟩
 by_cases a2:97<=c/\c<=102
 ·obtain⟨x1,x2⟩:=a2;have hv:vv c=c - 87:=by unfold vv hx;(repeat' split) <;> omega
  rw[hv];clear hv;go_enter func246,ntmps246;go_wp2;go_ret;exact⟨dG (by omega),rfl⟩
 by_cases a3:65<=c/\c<=70
 ·obtain⟨x1,x2⟩:=a3;have hv:vv c=c - 55:=by unfold vv hx;(repeat' split) <;> omega
  rw[hv];clear hv;go_enter func246,ntmps246;go_wp2;go_ret;exact⟨dG (by omega),rfl⟩
 have hm:vv c=16:=by unfold vv hx;(repeat' split) <;> omega
 rw[hm];go_enter func246,ntmps246;go_wp2
 all_goals first
  | (go_ret;exact⟨rfl,rfl⟩)
  | (exfalso;omega)
  | (go_ret;exact⟨dG (by omega),rfl⟩)
theorem KT{a b:Int}(h:a=b):Ending.returned (.tuple #[.int .u64 a,.bool true])=.returned (.tuple #[.int .u64 b,.bool true]):=by rw[h]
def NO(B:Nat):Value:=.func (.func 245) #[] #[.pointer (some ⟨B,0,none⟩)]
theorem Nj(w:World)(t:TypeId)(v:Value):(w.alloc (.cells #[v] t)).cell? ⟨w.heap.size,0,none⟩=some v:=by have hb:(w.alloc (.cells #[v] t)).heap[w.heap.size]? = some (.cells #[v] t):=heap_alloc_new w _;generalize w.alloc (.cells #[v] t)=W at hb ⊢;simp[World.cell?,hb]
theorem jL(b:Int)(w:World):Calls prog 217 #[.int .u64 b] w fun e W'=>e=.returned (NO w.heap.size)/\W'.cell? ⟨w.heap.size,0,none⟩=some (.int .u64 b)/\Below w.heap.size w W':=by go_enter func217,ntmps217;go_wp2;go_ret;exact⟨rfl,Nj w _ _,(Below.refl _ w).alloc (le_refl _) _⟩
theorem Fe(b n:Nat)(c:Int)(B:Nat)(w:World)(h0:0<=c)(h1:c<=255)(hb:b<=16)(hg:ij b c=false)(hc:w.cell? ⟨B,0,none⟩=some (.int .u64 b)):
  Calls prog 245 #[.int .u64 n,.int .u8 c,.pointer (some ⟨B,0,none⟩)] w fun e W'=>e=.returned (.tuple #[.int .u64 0,.bool false])/\W'=w:=by
 have hv:((b:Int)<=vv c):=by have:=of_decide_eq_false hg;have q:=iG c;unfold vv;split <;> omega
 have HV:=hid (fW c h0 h1);obtain⟨y,hy⟩:=Ex' (vv c);rw[hy]at hv HV;clear hg hy;go_enter func245,ntmps245;go_wp2_with(go_at_call 246;refine(HV.out _).mono ?_;rintro e w2 ⟨rfl,hw2⟩;obtain rfl:=hw2.symm);go_ret2;exact⟨rfl,rfl⟩
theorem Bq(b n:Nat)(c:Int)(B:Nat)(w:World)(h0:0<=c)(h1:c<=255)(hb:b<=16)(hn:n<=4294967296)(hg:ij b c=true)(hc:w.cell? ⟨B,0,none⟩=some (.int .u64 b)):
  Calls prog 245 #[.int .u64 n,.int .u8 c,.pointer (some ⟨B,0,none⟩)] w fun e W'=>e=.returned (.tuple #[.int .u64 ((min (n * b+(hx c).toNat) 4294967296:Nat):Int),.bool true])/\W'=w:=by
 have hgd:=of_decide_eq_true hg;obtain⟨x,hx'⟩:∃ x:Nat,hx c=(x:Int):=⟨(hx c).toNat,by omega⟩;have hv:vv c=x:=by unfold vv;rw[if_neg (by omega),hx']
 have HV:=hid (fW c h0 h1);rw[hv]at HV;rw[hx']at hgd ⊢;have hxb:¬ ((b:Int)<=(x:Int)):=by omega
 have hm:n * b<=4294967296 * 16:=Nat.mul_le_mul hn hb;obtain⟨m,hm'⟩:=Ex' (n * b);have hmz:(n:Int) * (b:Int)=(m:Int):=by rw[<-hm'];simp
 rw[hm']at hm ⊢;clear hg hx' hv hgd hm';go_enter func245,ntmps245;go_wp2_with(go_at_call 246;refine(HV.out _).mono ?_;rintro e w2 ⟨rfl,hw2⟩;obtain rfl:=hw2.symm)
 all_goals
  go_ret2;refine⟨?_,rfl⟩;show Ending.returned (.tuple #[.int .u64 _,.bool true])=Ending.returned (.tuple #[.int .u64 _,.bool true]);exact KT (by omega)
theorem Sr(a b:UInt8):(⟨#[a,b]⟩:ByteArray).toList=[a,b]:=by rw[toList_eq]
theorem Ef(s:ByteArray)(h2:2<=s.size)(a b:UInt8):((s.extract 0 2).toList==[a,b])=decide ((bn s)[0]?.getD 0=(a.toNat:Int)/\(bn s)[1]?.getD 0=(b.toNat:Int)):=by
 rw[<-Sr,lE];have e:bn (s.extract 0 2)=(bn s).take 2:=by unfold bn;rw[ByteArray.data_extract,Array.toList_extract,List.extract_eq_take_drop,List.map_take,List.map_drop];rfl
 rw[e];have hl:=aa s;generalize bn s=l at *;match l,hl with
 | [],hl=>simp at hl;omega
 | [x],hl=>simp at hl;omega
 | x::y::r,hl =>
  apply decide_eq_decide.2;simp[bn]
theorem PO(s:ByteArray)(h2:2<=s.size):isX (bn s)=((s.extract 0 2).toList==[48,120]||(s.extract 0 2).toList==[48,88]):=by
 rw[Ef s h2,Ef s h2,<-Bool.decide_or];unfold isX;rw[aa];apply decide_eq_decide.2;constructor
 ·rintro⟨_,h1,h3 | h3⟩
  ·exact .inl ⟨h1,h3⟩
  ·exact .inr ⟨h1,h3⟩
 ·rintro(⟨h1,h3⟩ | ⟨h1,h3⟩)
  ·exact⟨h2,h1,.inl h3⟩
  ·exact⟨h2,h1,.inr h3⟩
theorem ml(s:ByteArray)(w:World)(hs:s.size<=400000000):Calls prog 176 #[.string s] w fun e W'=>e=.returned (.bool (isX (bn s)))/\W'=w:=by
 by_cases h2:2<=s.size
 ·have h2z:(2:Int)<=(s.size:Int):=by omega
  rw[PO s h2];by_cases q1:(s.extract 0 2).toList=[48,120]
  ·go_enter func176,ntmps176;go_wp2;go_ret;refine⟨?_,rfl⟩;rw[q1];rfl
  ·go_enter func176,ntmps176;go_wp2;go_ret;exact⟨rfl,rfl⟩
 ·have h2z:¬ (2:Int)<=(s.size:Int):=by omega
  have hX:isX (bn s)=false:=by unfold isX;exact decide_eq_false (fun h=>h2 (by have:=h.1;rw[aa]at this;exact this))
  rw[hX];clear hX;go_enter func176,ntmps176;go_wp2;go_ret;exact⟨rfl,rfl⟩
theorem dp(s:ByteArray)(w:World)(hs:s.size<=400000000)(h0:0<s.size):Calls prog 216 #[.string s] w fun e W'=>e=.returned (.tuple #[.string (tail s),.int .u64 (base (bn s):Nat)])/\W'=w:=by
 have HX:=hid (fun W=>ml s W hs);have HT:Hid (tail s=if isX (bn s)=true then s.extract 2 s.size else if isO (bn s)=true then s.extract 1 s.size else s):=rfl;have HB:Hid (base (bn s)=if isX (bn s)=true then 16 else if isO (bn s)=true then 8 else 10):=rfl;have h2X:Hid (isX (bn s)=true->2<=s.size):=fun h=>by have:=(of_decide_eq_true h).1;rw[aa]at this;exact this
 have hO:Hid (isO (bn s)=decide (2<=s.size/\(bn s)[0]?.getD 0=48)):=by show _=_;unfold isO;rw[aa]
 have hg:=(bJ s 0 h0).symm;obtain⟨y,hy⟩:=Ex' ((bn s)[0]?.getD 0);rw[hy]at hg hO;clear hy;cases hX:isX (bn s) with
 | true =>
  rw[hX]at HX HT HB;rw[HT.out,HB.out];have h2:=h2X.out hX;clear HT HB hO h2X hX hg;go_enter func216,ntmps216;go_wp2_with(go_at_call 176;refine(HX.out _).mono ?_;rintro e w2 ⟨rfl,hw2⟩;obtain rfl:=hw2.symm);go_ret2;exact⟨rfl,rfl⟩
 | false =>
  rw[hX]at HX HT HB;rw[HT.out,HB.out];clear HT HB h2X hX;by_cases h2:2<=s.size
  ·have h2z:(1:Int)<(s.size:Int):=by omega
   by_cases h48:y=48
   ·have hb:(y==48)=true:=by simpa using h48
    have hO':isO (bn s)=true:=by rw[hO.out];exact decide_eq_true ⟨h2,h48⟩
    rw[hO'];clear hO hO' h48;go_enter func216,ntmps216;go_wp2_with(go_at_call 176;refine(HX.out _).mono ?_;rintro e w2 ⟨rfl,hw2⟩;obtain rfl:=hw2.symm);go_ret2;exact⟨rfl,rfl⟩
   ·have hb:(y==48)=false:=by simpa using h48
    have hO':isO (bn s)=false:=by rw[hO.out];exact decide_eq_false (fun h=>h48 h.2)
    rw[hO'];clear hO hO' h48;go_enter func216,ntmps216;go_wp2_with(go_at_call 176;refine(HX.out _).mono ?_;rintro e w2 ⟨rfl,hw2⟩;obtain rfl:=hw2.symm);go_ret2;exact⟨rfl,rfl⟩
  ·have h2z:¬ (1:Int)<(s.size:Int):=by omega
   have hO':isO (bn s)=false:=by rw[hO.out];exact decide_eq_false (fun h=>h2 h.1)
   rw[hO'];clear hO hO';go_enter func216,ntmps216;go_wp2_with(go_at_call 176;refine(HX.out _).mono ?_;rintro e w2 ⟨rfl,hw2⟩;obtain rfl:=hw2.symm);go_ret2;exact⟨rfl,rfl⟩
theorem cC(s:ByteArray)(w:World)(hs:s.size<=400000000):
  Calls prog 177 #[.string s] w fun e W'=>ka (bn s) e/\Below w.heap.size w W':=by
 by_cases h0:s.size=0
 ·have he:s.toList.isEmpty=true:=aC s h0;have hn:num (bn s)=(0,8):=by have:bn s=[]:=List.length_eq_zero_iff.1 (by rw[aa];exact h0);rw[this];rfl
  have HR:Hid (∀ e,e=.returned (.tuple #[.int .u64 0,.int .i64 8])->ka (bn s) e):=fun e h=>by unfold ka;rw[hn];exact h
  clear hn;go_enter func177,ntmps177;go_wp2;go_ret2;exact⟨HR.out _ rfl,Below.refl _ _⟩
 ·have he:s.toList.isEmpty=false:=ay s (by omega);have hl:bn s≠[]:=fun e=>h0 (by rw[<-aa,e];rfl);have HTS:Hid (bn (tail s)=rest (bn s)):=Kg s;have HTZ:=AW s;have HCU:=hid (fun W=>dp s W hs (by omega));have hb16:base (bn s)<=16:=by unfold base;(repeat' split) <;> omega
  have HB1:=hid (Ji (bn s));have HBAD:Hid (∀ k,k<(tail s).size->ij (base (bn s)) ((bn (tail s))[k]?.getD 0)=false->num (bn s)=(0,8)):=fun k hk h=>Lw hl (by rw[<-HTS.out];exact vz (by rw[aa];exact hk) h);have HEND:Hid (ok (base (bn s)) (bn (tail s))=true->num (bn s)=if 4294967296<=cap (base (bn s)) (bn (tail s)) then (0,4) else (cap (base (bn s)) (bn (tail s)),0)):=fun h=>by rw[HTS.out]at h ⊢;exact Lv hl h
  have HNR:Hid (∀(x:Nat) (y:Int) e,num (bn s)=(x,y)->e=.returned (.tuple #[.int .u64 x,.int .i64 y])->ka (bn s) e):=fun x y e h he=>by unfold ka;rw[h];exact he
  obtain⟨b,hb⟩:=Ex' (base (bn s));obtain⟨T,hT⟩:=Ex' (tail s);rw[hb]at HCU hb16 HB1 HBAD HEND;rw[hT]at HCU HTZ HBAD HEND;clear hb hT HTS hl;have hTs:T.size<=400000000:=by omega
  have HBD:=hid (fun j (h:j<T.size)=>cM (s:=T) h);have HGT:=hid (bJ T);have HLN:=hid (aa T);go_enter func177,ntmps177
  go_wp2_with(first
    | (go_at_call 216;refine(HCU.out _).mono ?_;rintro e w2 ⟨rfl,hw2⟩;obtain rfl:=hw2.symm)
    | (go_at_call 217;refine(jL _ _).mono ?_;rintro e w3 ⟨rfl,hc3,B3⟩;unfold NO))
  have HC3:=hid hc3;have HB3:=hid B3;have HRB:=hid (Fe b);have HRG:=hid (Bq b);clear hc3 B3 HCU
  go_loop [2,21] (fun v2 v21=>∃(k n:Nat),k<=T.size/\n<=4294967296/\v2=.int .u64 n/\v21=.int .i64 k/\Hid (n=cap b ((bn T).take k))/\Hid (ok b ((bn T).take k)=true)) (fun _ v21=>T.size - (intOf v21).toNat)
  case atStart=>exact⟨0,0,zero_le _,by omega,rfl,rfl,rfl,rfl⟩
  case round =>
   obtain⟨k,n,hk,hn,rfl,rfl,HC,HO⟩:=hrel;by_cases hlt:k<T.size
   ·have hg:=(HGT.out k hlt).symm;obtain⟨hb0,hb1⟩:=HBD.out k hlt;have HBK:=hid (HBAD.out k hlt);have HTK:=hid (take_one (bn T) k (by rw[HLN.out];exact hlt));have HCS:Hid (cap b ((bn T).take (k+1))=min (n * b+(hx ((bn T)[k]?.getD 0)).toNat) 4294967296):=by show _=_;rw[HTK.out,Jd HB1.out,<-HC.out]
    have HOS:Hid (ok b ((bn T).take (k+1))=ij b ((bn T)[k]?.getD 0)):=by show _=_;rw[HTK.out,sL,HO.out,Bool.true_and]
    have hltz:(k:Int)<(T.size:Int):=by omega
    obtain⟨y,hy⟩:=Ex' ((bn T)[k]?.getD 0);rw[hy]at hg hb0 hb1 HBK HCS HOS;clear hy HTK HGT HBD HBAD HEND;cases hG:ij b y with
    | false =>
     have HR:=hid (HBK.out hG);have HX:=hid (HRB.out n y w.heap.size w3 hb0 hb1 hb16 hG HC3.out);clear HBK HCS HOS HC HO hG HRB HRG;go_wp2_with(go_at_call 245;refine HX.out.mono ?_;rintro e w4 ⟨rfl,hw4⟩;obtain rfl:=hw4.symm);go_ret2;exact⟨HNR.out _ _ _ HR.out rfl,HB3.out⟩
    | true =>
     have HX:=hid (HRG.out n y w.heap.size w3 hb0 hb1 hb16 hn hG HC3.out);have HGT':=hid hG;obtain⟨z,hz⟩:=Ex' (min (n * b+(hx y).toNat) 4294967296);rw[hz]at HX HCS;have hz2:z<=4294967296:=by omega
     clear hz HBK HC HO hG HRB HRG;go_wp2_with(go_at_call 245;refine HX.out.mono ?_;rintro e w4 ⟨rfl,hw4⟩;obtain rfl:=hw4.symm);refine⟨⟨k+1,z,by omega,hz2,rfl,by go_num,?_,?_⟩,by simp[intOf];omega⟩
     ·show _=_;rw[HCS.out]
     ·show _=_;rw[HOS.out,HGT'.out]
   ·have ht:(bn T).take k=bn T:=List.take_of_length_le (by rw[HLN.out];omega);rw[ht]at HC HO;have HR:=hid (HEND.out HO.out);rw[<-HC.out]at HR;have hltz:¬ (k:Int)<(T.size:Int):=by omega
    clear ht HC HO HBAD HEND HGT HBD HRB HRG;by_cases hnl:4294967296<=n
    ·have HR':=hid (HR.out.trans (if_pos hnl));have hnz:(4294967296:Int)<=(n:Int):=by omega
     clear HR;go_wp2;go_ret2;exact⟨HNR.out _ _ _ HR'.out rfl,HB3.out⟩
    ·have HR':=hid (HR.out.trans (if_neg hnl));have hnz:¬ (4294967296:Int)<=(n:Int):=by omega
     clear HR;go_wp2;go_ret2;exact⟨HNR.out _ _ _ HR'.out rfl,HB3.out⟩
end F
end Go.Proofs.YtmkompnhefhngaaGreatDoor
namespace Go.Proofs
open Go.Shelf Go.RowKit
shelf_lay Lays.n149 Nm 149 at Tryz as Tryz.laysLast
shelf_lay Lays.n160 Nm 160 at Tryz as Tryz.laysTrim
end Go.Proofs
namespace Go.Proofs.YtmkompnhefhngaaGreatDoor
open Tryz Go.RowKit
namespace F
def ud(l:List Int):List Int:=if l.getLast? = some 46 then l.dropLast else l
theorem kl:∀ l:List Int,spl (l++[46])=spl l++[[]]
 | []=>rfl
 | c::l=>by
  show spl (c::(l++[46]))=_;rw[spl,kl l]
  conv=>rhs;rw[spl]
  split
  ·rfl
  ·have h:=aV l;cases hs:spl l with
   | nil=>exact absurd hs h
   | cons a t=>rfl
theorem mi:∀ l:List Int,l≠[]->l.getLast? ≠ some 46->(spl l).getLast? ≠ some []
 | [],h,_=>absurd rfl h
 | [c],_,h=>by
  have hc:c≠46:=fun e=>h (by rw[e];rfl);rw[spl,if_neg hc];simp[spl]
 | c::d::l,_,h=>by
  have ih:=mi (d::l) (by simp) (by rw[getLast?_cons_cons]at h;exact h);rw[spl];have h0:=aV (d::l);split
  ·cases hs:spl (d::l) with
   | nil=>exact absurd hs h0
   | cons a t=>rw[getLast?_cons_cons];rw[hs]at ih;exact ih
  ·cases hs:spl (d::l) with
   | nil=>exact absurd hs h0
   | cons a t =>
    rw[hs]at ih;cases t with
    | nil=>simp
    | cons b u =>
     show((c::a)::b::u).getLast? ≠ _;rw[getLast?_cons_cons]at ih ⊢;exact ih
theorem Fo(l:List Int):prt l=spl (ud l):=by
 unfold prt ud;by_cases h:l.getLast? = some 46
 ·have hne:l≠[]:=fun e=>by rw[e]at h;cases h
  have e:l=l.dropLast++[46]:=by have h2:=List.dropLast_concat_getLast hne;rw[List.getLast?_eq_some_getLast hne]at h;rw[Option.some.inj h]at h2;exact h2.symm
  have e2:spl l=spl l.dropLast++[[]]:=by
   conv=>lhs;rw[e]
   exact kl _
  have hp:=List.length_pos_iff.2 (aV l.dropLast);rw[if_pos h,e2,if_pos ⟨by rw[List.length_append];simp;omega,by simp⟩];simp
 ·rw[if_neg h];by_cases hl:l=[]
  ·rw[hl];rfl
  ·rw[if_neg (fun hh=>mi l hl h hh.2)]
theorem dL:∀(a b:List Int),¬ 46∈b->(spl (a++46::b)).getLast? = some b
 | [],b,h=>by
  show(spl (46::b)).getLast? = _;rw[mN,cn b h];rfl
 | c::a,b,h=>by
  have ih:=dL a b h;show(spl (c::(a++46::b))).getLast? = _;have h0:=aV (a++46::b)
  have hlen:2<=(spl (a++46::b)).length:=by
   clear ih h h0
   induction a with
   | nil=>show 2<=(spl (46::b)).length;rw[mN];have:=List.length_pos_iff.2 (aV b);simp;omega
   | cons d a ih2 =>
    show 2<=(spl (d::(a++46::b))).length;rw[spl];split
    ·simp;omega
    ·simp;omega
  rw[spl];cases hs:spl (a++46::b) with
  | nil=>exact absurd hs h0
  | cons x t =>
   rw[hs]at ih hlen;cases t with
   | nil=>simp at hlen
   | cons y u =>
    rw[getLast?_cons_cons]at ih;split
    ·rw[getLast?_cons_cons,getLast?_cons_cons];exact ih
    ·show((c::x)::y::u).getLast? = _;rw[getLast?_cons_cons];exact ih
def mG(s:ByteArray):ByteArray:=if (bn s).getLast? = some 46 then s.extract 0 (s.size - 1) else s
theorem zx(s:ByteArray):bn (mG s)=ud (bn s):=by
 unfold mG ud;split
 ·rw[za s 0 (s.size - 1) (zero_le _) (by omega),drop_zero,Nat.sub_zero,List.dropLast_eq_take,aa]
 ·rfl
theorem qL(s:ByteArray):(mG s).size<=s.size:=by
 unfold mG;split
 ·simp
 ·exact le_refl _
theorem Ss(a:UInt8):(⟨#[a]⟩:ByteArray).toList=[a]:=by rw[toList_eq]
theorem Mf(s:ByteArray)(h:0<s.size):((s.extract (s.size - 1) s.size).toList==[46])=decide ((bn s).getLast? = some 46):=by
 rw[<-Ss,lE,aw];apply decide_eq_decide.2;rw[List.getLast?_eq_getElem?,<-aa] ;rw[<-aa]at h;generalize bn s=l at *;have hd:l.drop (l.length - 1)=[l[l.length - 1]'(by omega)]:=by rw[drop_eq_getElem_cons (by omega),show l.length - 1+1=l.length by omega,List.drop_length]
 rw[hd,getElem?_eq_getElem (by omega)];simp[bn]
theorem dX(s:ByteArray)(w:World)(hs:s.size<=400000000):Calls prog 175 #[.string s] w fun e W'=>e=.returned (.string (mG s))/\W'=w:=by
 by_cases h1:1<=s.size
 ·have h1z:(1:Int)<=(s.size:Int):=by omega
  have he:=Mf s h1;have HU:Hid (mG s=if (bn s).getLast? = some 46 then s.extract 0 (s.size - 1) else s):=rfl;by_cases hq:(bn s).getLast? = some 46
  ·rw[decide_eq_true hq]at he;rw[HU.out,if_pos hq];clear HU hq;go_enter func175,ntmps175;go_wp2;go_ret;exact⟨rfl,rfl⟩
  ·rw[decide_eq_false hq]at he;rw[HU.out,if_neg hq];clear HU hq;go_enter func175,ntmps175;go_wp2;go_ret;exact⟨rfl,rfl⟩
 ·have h1z:¬ (1:Int)<=(s.size:Int):=by omega
  have hu:mG s=s:=by unfold mG;have:bn s=[]:=List.length_eq_zero_iff.1 (by rw[aa];omega);rw[this,if_neg (by simp)]
  rw[hu];clear hu;go_enter func175,ntmps175;go_wp2;go_ret;exact⟨rfl,rfl⟩
theorem BZ(s:ByteArray)(w:World)(hs:s.size<=400000000):Calls prog 162 #[.string s,.int .u8 46] w fun e W'=>e=.returned (.int .i64 (Lib.lastIndexByte s 46))/\W'=w:=by
 have h:=Any.strings_LastIndexByte Tryz.laysLast s 46 (by omega) w;have hf:Tryz.laysLast_ren.f 149=162:=by kernel_rfl
 rw[hf]at h;exact h
def qH:ByteArray:=⟨#[48,49,50,51,52,53,54,55,56,57]⟩
theorem Em(s:ByteArray)(w:World)(hs:s.size<=400000000):Calls prog 178 #[.string s,.string qH] w fun e W'=>e=.returned (.string ⟨(Lib.trimS s.data.toList qH.data.toList).toArray⟩)/\Below w.heap.size w W':=by
 have h:=Any.strings_Trim_laid Tryz.laysTrim (by kernel_rfl) s qH w (by omega) (by decide) (ascii_of_all (by decide));have hf:Tryz.laysTrim_ren.f 160=178:=by kernel_rfl
 rw[hf]at h;exact h
theorem tQ(s:ByteArray)(j:Nat)(h:j<s.size):((s.data[j]!).toNat:Int)=(bn s)[j]?.getD 0:=by rw[bJ s j h];have:s.data[j]! = s[j]:=LastIndex.byteBang s j h;rw[this]
theorem Cc(s:ByteArray):∃ k:Nat,k<=s.size/\Lib.lastIndexByte s 46=(k:Int) - 1/\(spl (bn s)).getLast? = some (bn (s.extract k s.size)):=by
 rcases Lib.lastIndexByte_spec s 46 with⟨h1,h2⟩ | ⟨i,hi,h1,h2,h3⟩
 ·refine⟨0,zero_le _,by rw[h1];rfl,?_⟩;rw[aw,drop_zero];have hn:¬ 46∈bn s:=by intro hm;obtain⟨j,hj,e⟩:=List.mem_iff_getElem.1 hm;rw[aa]at hj;refine h2 j hj ?_;rw[tQ s j hj,getElem?_eq_getElem (by rw[aa];exact hj),e];rfl
  rw[cn _ hn];rfl
 ·refine⟨i+1,by omega,by rw[h1];omega,?_⟩;rw[aw];rw[tQ s i hi]at h2
  have e:bn s=(bn s).take i++46::(bn s).drop (i+1):=by
   have h4:i<(bn s).length:=by rw[aa];exact hi
   have h5:(bn s).drop i=46::(bn s).drop (i+1):=by rw[drop_eq_getElem_cons h4];rw[getElem?_eq_getElem h4]at h2;rw[show(bn s)[i]=46 from h2]
   rw[<-h5,take_append_drop]
  have hn:¬ 46∈(bn s).drop (i+1):=by intro hm;obtain⟨j,hj,e⟩:=List.mem_iff_getElem.1 hm;rw[length_drop,aa]at hj;refine h3 (i+1+j) (by omega) (by omega) ?_;rw[tQ s _ (by omega),getElem?_eq_getElem (by rw[aa];omega)];rw[List.getElem_drop]at e;exact e
  conv=>lhs;rw[e]
  exact dL _ _ hn
theorem tJ:∀ n:Fin 256,(qH.data.toList.contains (UInt8.ofNat n.val))=ten (n.val:Int):=by decide +kernel
theorem ll(b:UInt8):qH.data.toList.contains b=ten (b.toNat:Int):=by have h:=tJ ⟨b.toNat,b.toNat_lt⟩;simp only[UInt8.ofNat_toNat]at h;exact h
theorem yK{p:UInt8->Bool}:∀ {l:List UInt8},l.dropWhile p=[]↔∀ b∈l,p b=true
 | []=>by simp
 | a::l=>by
  rw[List.dropWhile_cons];cases h:p a with
  | true=>rw[if_pos rfl,yK];simp[h]
  | false=>simp[h]
theorem gB{p:UInt8->Bool}{b:UInt8}:∀ {l:List UInt8},b∈l.takeWhile p->p b=true
 | [],h=>by simp at h
 | a::l,h=>by
  rw[List.takeWhile_cons]at h;cases hp:p a with
  | true =>
   rw[hp,if_pos rfl,mem_cons]at h;rcases h with rfl | h
   ·exact hp
   ·exact gB h
  | false=>rw[hp]at h;simp at h
theorem SA(y:Int):(y != 8)=decide (y≠8):=by by_cases h:y=8 <;> simp[h]
theorem Ek(l cs:List UInt8):(Lib.trimS l cs=[])↔∀ b∈l,cs.contains b=true:=by
 unfold Lib.trimS Lib.trimLeftS Lib.trimRightS;constructor
 ·intro h b hb;rw[yK]at h;have h2:=List.takeWhile_append_dropWhile (p:=(cs.contains ·)) (l:=l.reverse);have hb':b∈l.reverse:=List.mem_reverse.2 hb;rw[<-h2,mem_append]at hb';rcases hb' with hb' | hb'
  ·exact gB hb'
  ·exact h b (List.mem_reverse.2 hb')
 ·intro h;have:l.reverse.dropWhile (cs.contains ·)=[]:=yK.2 (fun b hb=>h b (List.mem_reverse.1 hb));rw[this];rfl
theorem Ej(s:ByteArray):(⟨(Lib.trimS s.data.toList qH.data.toList).toArray⟩:ByteArray).toList.isEmpty=(bn s).all ten:=by
 rw[toList_eq,Bool.eq_iff_iff,List.isEmpty_iff,List.all_eq_true];show Lib.trimS _ _=[]↔_;rw[Ek];unfold bn;constructor
 ·intro h x hx;obtain⟨b,hb,rfl⟩:=List.mem_map.1 hx;rw[<-ll];exact h b hb
 ·intro h b hb;rw[ll];exact h _ (List.mem_map.2 ⟨b,hb,rfl⟩)
theorem Qi{p:List Int}(h:isX p=true):pR p=decide ((num p).2≠8):=by
 unfold pR;have hx:=of_decide_eq_true h
 have:p.all ten=false:=by
  rw[Bool.eq_false_iff];intro ha;match p,hx with
  | [],hx=>simp at hx
  | [a],hx=>simp at hx
  | a::b::r,hx =>
   have h1:=List.all_eq_true.1 ha b (by simp);have h2:=of_decide_eq_true h1;have h3:b=120\/b=88:=by simpa using hx.2.2
   omega
 rw[this,h,Bool.and_false,Bool.false_or,Bool.true_and]
theorem Qj{p:List Int}(h:isX p=false):pR p=(decide (p≠[])&&p.all ten):=by unfold pR;rw[h];simp
theorem Iy(s:ByteArray)(w:World)(hs:s.size<=400000000):
  Calls prog 118 #[.string s] w fun e W'=>e=.returned (.bool (ends (bn s)))/\Below w.heap.size w W':=by
 have HU:=hid (fun W=>dX s W hs);have hus:=qL s;have HE:Hid (ends (bn s)=pR ((spl (bn (mG s))).getLast?.getD [])):=by show _=_;unfold ends;rw[Fo,zx]
 obtain⟨U,hU⟩:=Ex' (mG s);rw[hU]at HU hus HE;clear hU;have HLI:=hid (fun W=>BZ U W (by omega));obtain⟨k,hk,hli,hlp⟩:=Cc U;rw[hli]at HLI;rw[hlp]at HE;clear hli hlp;obtain⟨D,hD⟩:=Ex' (U.extract k U.size);have hDs:D.size<=400000000:=by rw[<-hD];simp;omega
 rw[hD]at HE;have HSX:=hid (fun W=>ml D W hDs);have HNU:=hid (fun W=>cC D W hDs);have HTR:=hid (fun W=>Em D W hDs);have HTT:=hid (Ej D);have HEX:=hid (Qi (p:=bn D));have HEN:=hid (Qj (p:=bn D));have hkz:(k:Int) - 1+1=(k:Int):=by omega
 have HB:Hid (Below w.heap.size w w):=Below.refl _ _;rw[HE.out];clear HE;show Calls _ _ _ _ fun e W'=>e=.returned (.bool (pR (bn D)))/\_;cases hX:isX (bn D) with
 | true =>
  rw[HEX.out hX];rw[hX]at HSX;unfold ka at HNU;obtain⟨⟨x,y⟩,hxy⟩:∃ p,num (bn D)=p:=⟨_,rfl⟩;rw[hxy]at HNU ⊢;clear HEX HEN hX hxy HTR HTT;go_enter func118,ntmps118
  go_wp2_with(first
    | (go_at_call 175;refine(HU.out _).mono ?_;rintro e w2 ⟨rfl,hw2⟩;obtain rfl:=hw2.symm)
    | (go_at_call 162;refine(HLI.out _).mono ?_;rintro e w2 ⟨rfl,hw2⟩;obtain rfl:=hw2.symm)
    | (go_at_call 176;refine(HSX.out _).mono ?_;rintro e w2 ⟨rfl,hw2⟩;obtain rfl:=hw2.symm)
    | (go_at_call 177;refine(HNU.out _).mono ?_;rintro e w2 ⟨rfl,B2⟩))
  go_ret;exact⟨by rw[<-SA];rfl,B2⟩
 | false =>
  rw[HEN.out hX];rw[hX]at HSX;rw[<-HTT.out];clear HEX HEN hX HTT HNU;by_cases hd0:D.size=0
  ·have he:D.toList.isEmpty=true:=aC D hd0;have hn:decide (bn D≠[])=false:=decide_eq_false (fun h=>h (List.length_eq_zero_iff.1 (by rw[aa];exact hd0)));rw[hn,Bool.false_and];clear hn HTR hd0;go_enter func118,ntmps118
   go_wp2_with(first
     | (go_at_call 175;refine(HU.out _).mono ?_;rintro e w2 ⟨rfl,hw2⟩;obtain rfl:=hw2.symm)
     | (go_at_call 162;refine(HLI.out _).mono ?_;rintro e w2 ⟨rfl,hw2⟩;obtain rfl:=hw2.symm)
     | (go_at_call 176;refine(HSX.out _).mono ?_;rintro e w2 ⟨rfl,hw2⟩;obtain rfl:=hw2.symm))
   go_ret;exact⟨rfl,HB.out⟩
  ·have he:D.toList.isEmpty=false:=ay D (by omega);have hn:decide (bn D≠[])=true:=decide_eq_true (fun h=>hd0 (by rw[<-aa,h];rfl));rw[hn,Bool.true_and];clear hn hd0;obtain⟨T,hT⟩:=Ex' ((⟨(Lib.trimS D.data.toList qH.data.toList).toArray⟩:ByteArray):ByteArray);rw[hT]at HTR ⊢;clear hT;unfold qH at HTR;go_enter func118,ntmps118
   go_wp2_with(first
     | (go_at_call 175;refine(HU.out _).mono ?_;rintro e w2 ⟨rfl,hw2⟩;obtain rfl:=hw2.symm)
     | (go_at_call 162;refine(HLI.out _).mono ?_;rintro e w2 ⟨rfl,hw2⟩;obtain rfl:=hw2.symm)
     | (go_at_call 176;refine(HSX.out _).mono ?_;rintro e w2 ⟨rfl,hw2⟩;obtain rfl:=hw2.symm)
     | (go_at_call 178;refine(HTR.out _).mono ?_;rintro e w2 ⟨rfl,B2⟩))
   go_ret;exact⟨rfl,B2⟩
end F
end Go.Proofs.YtmkompnhefhngaaGreatDoor
namespace Go.Proofs
open Go.Shelf Go.RowKit
shelf_lay Lays.n147 Nm 147 at Tryz as Tryz.laysSplN
end Go.Proofs
namespace Go.Proofs.YtmkompnhefhngaaGreatDoor
open Tryz Go.RowKit
namespace F
def Max(W:World):Prop:=∃ m:Int,W.cell? ⟨0,0,none⟩=some (.int .i64 m)
theorem Max.below{w w':World}(h:Max w)(hb:Below w.heap.size w w'):Max w':=by obtain⟨m,hm⟩:=h;exact⟨m,(hb.cell (p:=⟨0,0,none⟩) (mV hm)).trans hm⟩
def nn(l:List UInt8):List Int:=l.map fun c=>(c.toNat:Int)
theorem du{l:List UInt8}:46∈nn l↔46∈l:=by
 unfold nn;rw[mem_map];constructor
 ·rintro⟨c,hc,e⟩;have:c=46:=UInt8.toNat_inj.1 (by have h:(46:UInt8).toNat=46:=rfl;omega);rw[<-this];exact hc
 ·intro h;exact⟨46,h,rfl⟩
theorem kj{l:List Int}(h:46∈l):2<=(spl l).length:=by
 obtain⟨a,b,rfl⟩:=List.append_of_mem h;clear h
 induction a with
 | nil =>
  show 2<=(spl (46::b)).length;rw[mN];have:=List.length_pos_iff.2 (aV b);rw[length_cons];omega
 | cons d a ih =>
  show 2<=(spl (d::(a++46::b))).length;rw[spl];split
  ·rw[length_cons];omega
  ·rw[length_cons,List.length_tail];omega
theorem Ox:∀(k:Nat) (l:List UInt8),((spl (nn l)).length<=k+1/\(Lib.splitK [46] 0 k l).map nn=spl (nn l))\/(k+1<(spl (nn l)).length/\(Lib.splitK [46] 0 k l).length=k+1)
 | 0,l=>by
  by_cases h:46∈l
  ·right;have:=kj (du.2 h);exact⟨by omega,rfl⟩
  ·left;have hs:=cn (nn l) (fun hh=>h (du.1 hh));rw[hs];exact⟨by simp,rfl⟩
 | k+1,l=>by
  have hge:=Lib.indexByte_ge l 46;have hi1:=Lib.index_one l 46;by_cases hm:Lib.indexByte l 46=-1
  ·left;have hn:=Lib.indexByte_none hm;have h:¬ 46∈l:=fun hh=>by obtain⟨j,hj,e⟩:=List.mem_iff_getElem.1 hh;exact hn j (by rw[getElem?_eq_getElem hj,e])
   have hs:=cn (nn l) (fun hh=>h (du.1 hh));rw[hs];refine⟨by simp,?_⟩;rw[Lib.splitK,hi1,hm];rfl
  ·obtain⟨i,hi⟩:∃ i:Nat,Lib.indexByte l 46=i:=⟨(Lib.indexByte l 46).toNat,by omega⟩;obtain⟨h1,h2⟩:=Lib.indexByte_some hi;have hil:i<l.length:=(List.getElem?_eq_some_iff.1 h1).1
   have e:l=l.take i++46::l.drop (i+1):=by
    have h5:l.drop i=46::l.drop (i+1):=by rw[drop_eq_getElem_cons hil];rw[getElem?_eq_getElem hil]at h1;rw[Option.some.inj h1]
    rw[<-h5,take_append_drop]
   have hn:¬ 46∈l.take i:=fun hh=>by obtain⟨j,hj,e⟩:=List.mem_iff_getElem.1 hh;rw[length_take]at hj;rw[List.getElem_take]at e;exact h2 j (by omega) (by rw[getElem?_eq_getElem (by omega),e])
   have es:spl (nn l)=nn (l.take i)::spl (nn (l.drop (i+1))):=by
    conv=>lhs;rw[e]
    rw[show nn (l.take i++46::l.drop (i+1))=nn (l.take i)++46::nn (l.drop (i+1)) by unfold nn;rw[List.map_append];rfl];exact cG _ _ (fun hh=>hn (du.1 hh))
   have ek:Lib.splitK [46] 0 (k+1) l=l.take i::Lib.splitK [46] 0 k (l.drop (i+1)):=by rw[Lib.splitK,hi1,hi,if_neg (by simp)];simp
   rw[es,ek];rcases Ox k (l.drop (i+1)) with⟨g1,g2⟩ | ⟨g1,g2⟩
   ·left;exact⟨by rw[length_cons];omega,by rw[map_cons,g2]⟩
   ·right;exact⟨by rw[length_cons];omega,by rw[length_cons,g2]⟩
theorem iv(U:ByteArray)(qs:List ByteArray)(hq:qs=Lib.splitB ⟨#[46]⟩ 0 (min 5 (U.size+1) - 1) U):((spl (bn U)).length<=4/\qs.map bn=spl (bn U))\/(4<(spl (bn U)).length/\4<qs.length):=by
 have hd:=Lib.splitB_data ⟨#[46]⟩ 0 (min 5 (U.size+1) - 1) U;rw[<-hq]at hd
 have hb:qs.map bn=(Lib.splitK [46] 0 (min 5 (U.size+1) - 1) U.data.toList).map nn:=by
  have h2:qs.map bn=(qs.map (·.data.toList)).map nn:=by rw[List.map_map];rfl
  rw[h2,hd]
 have hl:qs.length=(Lib.splitK [46] 0 (min 5 (U.size+1) - 1) U.data.toList).length:=by
  have:=congrArg List.length hb
  rwa [length_map,length_map]at this
 have hc:=zG (bn U);rw[aa]at hc;rcases Ox (min 5 (U.size+1) - 1) U.data.toList with⟨g1,g2⟩ | ⟨g1,g2⟩
 ·have g1':(spl (bn U)).length<=min 5 (U.size+1) - 1+1:=g1;have g2':qs.map bn=spl (bn U):=hb.trans g2;by_cases h4:(spl (bn U)).length<=4
  ·exact .inl ⟨h4,g2'⟩
  ·right;refine⟨by omega,?_⟩;have:=congrArg List.length g2';rw[length_map]at this;omega
 ·have g1':min 5 (U.size+1) - 1+1<(spl (bn U)).length:=g1;right;rw[hl,g2];omega
theorem jY{done:List ByteArray}{N j:Nat}(h:j<done.length):(Lib.cellsOf done N)[j]? = some (.string (done[j]?.getD ⟨#[]⟩)):=by unfold Lib.cellsOf;rw[List.getElem?_toArray,List.getElem?_append_left (by simpa using h),getElem?_map,getElem?_eq_getElem h];rfl
theorem fu(w:World)(t:TypeId)(cs:Array Value)(j:Nat):(w.alloc (.cells cs t)).cell? ⟨w.heap.size,j,none⟩=cs[j]? := by have hb:(w.alloc (.cells cs t)).heap[w.heap.size]? = some (.cells cs t):=heap_alloc_new w _;generalize w.alloc (.cells cs t)=W at hb ⊢;simp[World.cell?,hb]
theorem gF(U:ByteArray)(w:World)(hU:U.size<=400000000)(hM:Max w):
  Calls prog 165 #[.string U,.string ⟨#[46]⟩,.int .i64 5] w fun e W'=>(∃(b c:Nat) (qs:List ByteArray),e=.returned (.slice (some ⟨b,0,none⟩) qs.length c)/\(∀ j,j<qs.length->W'.cell? ⟨b,j,none⟩=some (.string (qs[j]?.getD ⟨#[]⟩)))/\(((spl (bn U)).length<=4/\qs.map bn=spl (bn U))\/(4<(spl (bn U)).length/\4<qs.length)))/\Below w.heap.size w W':=by
 obtain⟨m,hm⟩:=hM;have hf:Tryz.laysSplN_ren.f 147=165:=by kernel_rfl
 have hg:Tryz.laysSplN_ren.g 1=0:=by kernel_rfl
 have h:=Any.strings_SplitN Tryz.laysSplN (by kernel_rfl) U ⟨#[46]⟩ 5 m w (by omega) (by rw[hg];exact hm) (by decide) (by decide) (by decide);rw[hf]at h;refine h.mono ?_;rintro e W' ⟨rfl,rfl⟩;refine⟨⟨_,_,_,rfl,fun j hj=>?_,iv U _ rfl⟩,(Below.refl _ w).alloc (le_refl _) _⟩;rw[fu];exact jY hj
end F
end Go.Proofs.YtmkompnhefhngaaGreatDoor
namespace Go.Proofs
open Go.Shelf Go.RowKit
shelf_lay Lays.n146 Nm 146 at Tryz as Tryz.laysSplC
end Go.Proofs
namespace Go.Proofs.YtmkompnhefhngaaGreatDoor
open Tryz Go.RowKit
namespace Cn
open F (bn aa hid ay aC nn spl Max)
theorem qP:∀(n:Nat) (l:List UInt8),l.length<=n->(spl (nn l)).length=Lib.count l [46]+1
 | n,l,hn=>by
  have hge:=Lib.indexByte_ge l 46;have hi1:=Lib.index_one l 46;by_cases hm:Lib.indexByte l 46=-1
  ·have hn:=Lib.indexByte_none hm;have h:¬ 46∈l:=fun hh=>by obtain⟨j,hj,e⟩:=List.mem_iff_getElem.1 hh;exact hn j (by rw[getElem?_eq_getElem hj,e])
   rw[F.cn (nn l) (fun hh=>h (F.du.1 hh)),Lib.count_miss (by rw[hi1];exact hm)];rfl
  ·obtain⟨i,hi⟩:∃ i:Nat,Lib.indexByte l 46=i:=⟨(Lib.indexByte l 46).toNat,by omega⟩;obtain⟨h1,h2⟩:=Lib.indexByte_some hi;have hil:i<l.length:=(List.getElem?_eq_some_iff.1 h1).1
   have e:l=l.take i++46::l.drop (i+1):=by
    have h5:l.drop i=46::l.drop (i+1):=by rw[drop_eq_getElem_cons hil];rw[getElem?_eq_getElem hil]at h1;rw[Option.some.inj h1]
    rw[<-h5,take_append_drop]
   have hn2:¬ 46∈l.take i:=fun hh=>by obtain⟨j,hj,e⟩:=List.mem_iff_getElem.1 hh;rw[length_take]at hj;rw[List.getElem_take]at e;exact h2 j (by omega) (by rw[getElem?_eq_getElem (by omega),e])
   have es:spl (nn l)=nn (l.take i)::spl (nn (l.drop (i+1))):=by
    conv=>lhs;rw[e]
    rw[show nn (l.take i++46::l.drop (i+1))=nn (l.take i)++46::nn (l.drop (i+1)) by unfold nn;rw[List.map_append];rfl];exact F.cG _ _ (fun hh=>hn2 (F.du.1 hh))
   match n,hn with
   | 0,hn=>omega
   | n+1,hn =>
    have ih:=qP n (l.drop (i+1)) (by rw[length_drop];omega);rw[es,length_cons,ih,Lib.count_hit (s:=l) (sub:=[46]) (i:=i) (by simp) (by rw[hi1,hi])];show _=1+Lib.count (l.drop (i+1)) [46]+1;omega
theorem ER(U:ByteArray):(Lib.splitB ⟨#[46]⟩ 0 (Lib.countB U ⟨#[46]⟩) U).map bn=spl (bn U):=by
 have hd:=Lib.splitB_data ⟨#[46]⟩ 0 (Lib.countB U ⟨#[46]⟩) U;have hc:(spl (nn U.data.toList)).length=Lib.countB U ⟨#[46]⟩+1:=qP _ U.data.toList (le_refl _)
 have hb:(Lib.splitB ⟨#[46]⟩ 0 (Lib.countB U ⟨#[46]⟩) U).map bn=(Lib.splitK [46] 0 (Lib.countB U ⟨#[46]⟩) U.data.toList).map nn:=by
  have h2:(Lib.splitB ⟨#[46]⟩ 0 (Lib.countB U ⟨#[46]⟩) U).map bn=((Lib.splitB ⟨#[46]⟩ 0 (Lib.countB U ⟨#[46]⟩) U).map (·.data.toList)).map nn:=by rw[List.map_map];rfl
  rw[h2,hd]
 rcases F.Ox (Lib.countB U ⟨#[46]⟩) U.data.toList with⟨g1,g2⟩ | ⟨g1,g2⟩
 ·exact hb.trans g2
 ·omega
def nl(t:ByteArray):Bool:=!decide (0<t.size/\t.size<=63)
theorem Ch(t:ByteArray)(ht:t.size<=400000000)(w:World):Calls prog 99 #[.string t] w fun e W'=>e=.returned (.bool (nl t))/\W'=w:=by
 have h2:nl t=(t.toList.isEmpty||decide ((63:Int)<t.size)):=by
  unfold nl;rcases Nat.eq_zero_or_pos t.size with h0 | h0
  ·rw[aC t h0,decide_eq_false (by omega)];rfl
  ·rw[ay t h0,Bool.false_or,Bool.eq_iff_iff,Bool.not_eq_true',decide_eq_false_iff_not,decide_eq_true_iff];omega
 rw[h2];clear h2;go_enter func99,ntmps99;go_wp2;all_goals (go_ret;exact⟨by simp_all,rfl⟩)
def SIx(b:Bool)(w:World)(e:Ending)(W':World):Prop:=(∃ k:Int,e=.returned (.int .i64 k)/\decide (0<=k)=b)/\W'=w
theorem dW{p:ByteArray->Bool}{L:List ByteArray}(h:∀ j,j<L.length->p (L[j]?.getD ⟨#[]⟩)=false):L.any p=false:=by rw[List.any_eq_false];intro x hx;obtain⟨j,hj,rfl⟩:=List.mem_iff_getElem.1 hx;have:=h j hj;rw[getElem?_eq_getElem hj]at this;simpa using this
theorem lu{p:ByteArray->Bool}{L:List ByteArray}(j:Nat)(hj:j<L.length)(h:p (L[j]?.getD ⟨#[]⟩)=true):L.any p=true:=by rw[getElem?_eq_getElem hj]at h;exact List.any_eq_true.2 ⟨_,getElem_mem hj,h⟩
theorem EV(b n:Nat)(qs:List ByteArray)(hn:qs.length=n)(w:World)(hc:∀ j,j<n->w.cell? ⟨b,j,none⟩=some (.string (qs[j]?.getD ⟨#[]⟩)))(hN:n<=1000000000)(hz:∀ j,j<n->(qs[j]?.getD ⟨#[]⟩).size<=400000000):
  Calls prog 157 #[.slice (some ⟨b,0,none⟩) n n,.func (.func 99) #[] #[]] w fun e W'=>SIx (qs.any nl) w e W':=by
 have HC:=hid hc;have HZ:=hid hz;have HNO:=hid (dW (p:=nl) (L:=qs));have HYES:=hid (lu (p:=nl) (L:=qs));rw[hn]at HNO HYES;obtain⟨R,hR⟩:=Ex' (qs.any nl);rw[hR]at HNO HYES ⊢;clear hc hz hn hR;go_enter func157,ntmps157;go_wp2_with fail
 go_loopw [8] (fun v8 wr=>∃ k:Nat,k<=n/\v8=.int .i64 k/\Hid (∀ j,j<k->nl (qs[j]?.getD ⟨#[]⟩)=false)/\wr=w) (fun v8 _=>n - (intOf v8).toNat)
 case atStart=>exact⟨0,zero_le _,rfl,(fun j hj=>by omega),rfl⟩
 case round =>
  obtain⟨k,hk,rfl,HA,rfl⟩:=hrel;by_cases hlt:k<n
  ·have hck:=HC.out k hlt;have hltz:(k:Int)<(n:Int):=by omega
   have HX:=hid (HYES.out k hlt)
   have HS:Hid (nl (qs[k]?.getD ⟨#[]⟩)=false->∀ j,j<k+1->nl (qs[j]?.getD ⟨#[]⟩)=false):=fun h j hj=>by
    by_cases e:j=k
    ·rw[e];exact h
    ·exact HA.out j (by omega)
   have HCL:=hid (fun W=>Ch (qs[k]?.getD ⟨#[]⟩) (HZ.out k hlt) W);obtain⟨t,ht⟩:=Ex' (nl (qs[k]?.getD ⟨#[]⟩));rw[ht]at HX HS HCL;obtain⟨y,hy⟩:=Ex' (qs[k]?.getD ⟨#[]⟩);rw[hy]at hck HCL;clear hy ht;cases t with
   | true =>
    have HR:=hid (HX.out rfl);go_wp2_with(go_at_call 99;refine(HCL.out _).mono ?_;rintro e w1 ⟨rfl,h1⟩;obtain rfl:=h1.symm);go_ret;exact⟨⟨k,rfl,by rw[HR.out];exact decide_eq_true (by omega)⟩,rfl⟩
   | false =>
    have HR:=hid (HS.out rfl);go_wp2_with(go_at_call 99;refine(HCL.out _).mono ?_;rintro e w1 ⟨rfl,h1⟩;obtain rfl:=h1.symm)
    go_roundw
    case rel=>exact⟨k+1,by omega,by go_num,HR,trivial⟩
    case measure=>simp[intOf];omega
  ·have HR:=hid (HNO.out (fun j hj=>HA.out j (by omega)));go_wp2;go_ret;exact⟨⟨-1,rfl,by rw[HR.out];rfl⟩,rfl⟩
theorem EZ(b n:Nat)(qs:List ByteArray)(hn:qs.length=n)(w:World)(hc:∀ j,j<n->w.cell? ⟨b,j,none⟩=some (.string (qs[j]?.getD ⟨#[]⟩)))(hN:n<=1000000000)(hz:∀ j,j<n->(qs[j]?.getD ⟨#[]⟩).size<=400000000):
  Calls prog 97 #[.slice (some ⟨b,0,none⟩) n n,.func (.func 99) #[] #[]] w fun e W'=>e=.returned (.bool (qs.any nl))/\W'=w:=by
 have HI:=hid (EV b n qs hn w hc hN hz);clear hc hz hn;go_enter func97,ntmps97;go_wp2_with fail;refine HI.out.mono ?_;rintro e w1 ⟨⟨k,rfl,hk⟩,h1⟩;obtain rfl:=h1.symm;have HK:=hid hk;clear hk;go_wp2;go_ret;exact⟨by rw[<-HK.out];rfl,rfl⟩
theorem qJ(s:ByteArray)(hs:s.size<=400000000)(w:World)(hM:Max w):Calls prog 54 #[.string s] w fun e W'=>e=.returned (.bool (okn (bn s)))/\Below w.heap.size w W':=by
 have hf:Tryz.laysSplC_ren.f 146=98:=by kernel_rfl
 have hg:Tryz.laysSplC_ren.g 1=0:=by kernel_rfl
 have ht9:Tryz.laysSplC_ren.t 9=9:=by kernel_rfl
 obtain⟨m,hm⟩:=hM;have h:=Any.strings_Split Tryz.laysSplC (by kernel_rfl) s ⟨#[46]⟩ m w (by omega) (by rw[hg];exact hm) (by decide);rw[hf,ht9]at h;have hq:=ER s;have hqz:=Lib.splitB_all ⟨#[46]⟩ (by decide) 0 _ s rfl;have hle:=Lib.countB_le ⟨#[46]⟩ (by decide) s.size s (le_refl _);obtain⟨c,hc⟩:=Ex' (Lib.countB s ⟨#[46]⟩);rw[hc]at h hq hqz hle;obtain⟨qs,hqs⟩:=Ex' (Lib.splitB ⟨#[46]⟩ 0 c s);rw[hqs]at h hq hqz
 have hany:okn (bn s)=(decide ((s.size:Int)<=253)&&!qs.any nl):=by
  unfold okn;rw[aa,<-hq,List.all_map];congr 1
  ·exact decide_eq_decide.2 (by omega)
  ·rw[List.not_any_eq_all_not];congr 1;funext t;show decide (0<(bn t).length/\(bn t).length<=63)=!nl t;rw[aa];unfold nl;simp
 have HSP:=hid h
 have HIX:Hid (∀ W,W=w.alloc (.cells (qs.map Value.string).toArray 9)->Calls prog 97 #[.slice (some ⟨w.heap.size,0,none⟩) (c+1) (c+1),.func (.func 99) #[] #[]] W fun e W'=>e=.returned (.bool (qs.any nl))/\W'=W):=fun W hW=>by
  refine EZ w.heap.size (c+1) qs hqz W (fun j hj=>?_) (by omega) (fun j hj=>?_)
  ·rw[hW,F.fu,List.getElem?_toArray,getElem?_map,getElem?_eq_getElem (by omega)];rfl
  ·have hj':j<qs.length:=by omega
   have hmem:bn (qs[j]?.getD ⟨#[]⟩)∈spl (bn s):=by rw[<-hq,getElem?_eq_getElem hj'];exact List.mem_map_of_mem (getElem_mem hj')
   have hle2:=F.km (bn s) _ hmem;rw[aa,aa]at hle2;omega
 have HM:Hid (∀ b,b=qs.any nl->qs.any nl=b):=fun b h=>h.symm;obtain⟨v,hv⟩:=Ex' (qs.any nl);rw[hv]at HIX hany;obtain⟨CS,hCS⟩:=Ex' ((qs.map Value.string).toArray);rw[hCS]at HSP HIX;have hcz:((c+1:Nat):Int)<=400000001:=by omega
 obtain⟨n,hn⟩:=Ex' (c+1);rw[hn]at HSP HIX hcz;rw[hany];clear hany h hq hqz hqs hc hm hf hg ht9 HM hv hCS hn hle;by_cases h253:(s.size:Int)<=253
 ·rw[decide_eq_true h253,Bool.true_and];go_enter func54,ntmps54;go_wp2_with fail;refine HSP.out.mono ?_;rintro e w1 ⟨rfl,h1⟩;have HI:=hid (HIX.out w1 h1);have HB:Hid (Below w.heap.size w w1):=h1 ▸ (Below.refl _ w).alloc (le_refl _) _;clear HIX h1 HSP;go_wp2_with fail;refine HI.out.mono ?_;rintro e w2 ⟨rfl,h2⟩;obtain rfl:=h2.symm;go_wp2;all_goals (go_ret;exact⟨rfl,HB.out⟩)
 ·rw[decide_eq_false h253,Bool.false_and];clear HSP HIX;go_enter func54,ntmps54;go_wp2;go_ret;exact⟨rfl,Below.refl _ _⟩
end Cn
namespace D
abbrev Rw:=Int×Int×Int×Int×Int×Int×Bool×Int
abbrev Tri:=Int×Int×Int
def fZ:List Rw:=[
  (45,45,1,0,5,0,false,0),
  (46,46,1,0,6,0,false,0),
  (48,57,1,0,4,0,false,0),
  (65,90,3,2,1,0,false,0),
  (95,95,1,0,0,0,false,0),
  (97,122,1,2,1,0,false,0),
  (170,170,3,2,1,0,false,0),
  (173,173,2,0,9,0,false,0),
  (178,179,3,0,4,0,false,0),
  (185,185,3,0,4,0,false,0),
  (186,186,3,2,1,0,false,0),
  (192,214,3,2,1,0,false,0),
  (216,222,3,2,1,0,false,0),
  (223,223,4,2,1,0,false,0),
  (224,246,1,2,1,0,false,0),
  (248,255,1,2,1,0,false,0),
  (376,376,3,2,1,0,false,0),
  (469,469,3,2,1,0,false,0),
  (470,470,1,2,1,0,false,0)]
def fq:List Rw:=[
  (768,772,1,1,8,230,true,4),
  (774,776,1,1,8,230,true,4),
  (778,778,1,1,8,230,true,4),
  (803,803,1,1,8,220,true,4),
  (807,808,1,1,8,202,true,4),
  (902,902,3,3,1,0,false,0),
  (904,906,3,3,1,0,false,0),
  (908,908,3,3,1,0,false,0),
  (910,911,3,3,1,0,false,0),
  (913,929,3,3,1,0,false,0),
  (931,937,3,3,1,0,false,0),
  (940,943,1,3,1,0,false,0),
  (945,961,1,3,1,0,false,0),
  (962,962,4,3,1,0,false,0),
  (963,969,1,3,1,0,false,0),
  (972,974,1,3,1,0,false,0),
  (1025,1025,3,4,1,0,false,0),
  (1029,1030,3,4,1,0,false,0),
  (1032,1032,3,4,1,0,false,0),
  (1040,1071,3,4,1,0,false,0),
  (1072,1103,1,4,1,0,false,0),
  (1105,1105,1,4,1,0,false,0),
  (1109,1110,1,4,1,0,false,0),
  (1112,1112,1,4,1,0,false,0)]
def dj:List Rw:=[
  (1488,1514,1,5,2,0,false,0),
  (1575,1575,1,6,3,0,false,2),
  (1576,1576,1,6,3,0,false,3),
  (1578,1578,1,6,3,0,false,3),
  (1583,1583,1,6,3,0,false,2),
  (1587,1587,1,6,3,0,false,3),
  (1604,1606,1,6,3,0,false,3),
  (1608,1608,1,6,3,0,false,2),
  (1610,1610,1,6,3,0,false,3),
  (1611,1611,1,1,8,27,true,4),
  (1632,1641,1,6,7,0,false,0),
  (1776,1785,1,6,4,0,false,0),
  (2325,2361,1,7,1,0,false,0),
  (2367,2367,1,7,1,0,true,0),
  (2381,2381,1,7,8,9,true,4)]
def later:List Rw:=[
  (7776,7776,3,2,1,0,false,0),
  (7777,7777,1,2,1,0,false,0),
  (7778,7778,3,2,1,0,false,0),
  (7779,7779,1,2,1,0,false,0),
  (7784,7784,3,2,1,0,false,0),
  (7785,7785,1,2,1,0,false,0),
  (7838,7838,3,2,1,0,false,0),
  (8204,8204,4,1,9,0,false,0),
  (8205,8205,4,1,9,0,false,5),
  (8486,8486,3,3,1,0,false,0),
  (8490,8490,3,2,1,0,false,0),
  (8491,8491,3,2,1,0,false,0),
  (9731,9731,1,0,0,0,false,0),
  (12290,12290,3,0,0,0,false,0),
  (12353,12438,1,8,1,0,false,0),
  (12449,12538,1,9,1,0,false,0),
  (12540,12540,1,0,1,0,false,0),
  (19968,20108,1,10,1,0,false,0),
  (64257,64257,3,2,1,0,false,0),
  (65285,65285,3,0,0,0,false,0),
  (65293,65293,3,0,5,0,false,0),
  (65294,65294,3,0,6,0,false,0),
  (65295,65295,3,0,6,0,false,0),
  (65296,65305,3,0,4,0,false,0),
  (65313,65338,3,2,1,0,false,0),
  (65345,65370,3,2,1,0,false,0),
  (65377,65377,3,0,0,0,false,0),
  (66560,66599,3,11,1,0,false,0),
  (66600,66639,1,11,1,0,false,0),
  (128512,128512,1,0,0,0,false,0)]
def prs:List Tri:=[
  (192,65,768),
  (193,65,769),
  (194,65,770),
  (195,65,771),
  (196,65,776),
  (197,65,778),
  (199,67,807),
  (200,69,768),
  (201,69,769),
  (202,69,770),
  (203,69,776),
  (204,73,768),
  (205,73,769),
  (206,73,770),
  (207,73,776),
  (209,78,771),
  (210,79,768),
  (211,79,769),
  (212,79,770),
  (213,79,771),
  (214,79,776),
  (217,85,768),
  (218,85,769),
  (219,85,770),
  (220,85,776),
  (221,89,769),
  (224,97,768),
  (225,97,769),
  (226,97,770),
  (227,97,771),
  (228,97,776),
  (229,97,778),
  (231,99,807),
  (232,101,768),
  (233,101,769),
  (234,101,770),
  (235,101,776),
  (236,105,768),
  (237,105,769),
  (238,105,770),
  (239,105,776),
  (241,110,771),
  (242,111,768),
  (243,111,769),
  (244,111,770),
  (245,111,771),
  (246,111,776),
  (249,117,768),
  (250,117,769),
  (251,117,770),
  (252,117,776),
  (253,121,769),
  (255,121,776),
  (376,89,776),
  (469,220,772),
  (470,252,772),
  (902,913,769),
  (904,917,769),
  (905,919,769),
  (906,921,769),
  (908,927,769),
  (910,933,769),
  (911,937,769),
  (940,945,769),
  (941,949,769),
  (942,951,769),
  (943,953,769),
  (972,959,769),
  (973,965,769),
  (974,969,769),
  (1025,1045,776),
  (1049,1048,774),
  (1081,1080,774),
  (1105,1077,776),
  (7776,83,775),
  (7777,115,775),
  (7778,83,803),
  (7779,115,803),
  (7784,7778,775),
  (7785,7779,775)]
def fS(x:Rw):List Value:=[.int .i32 x.1,.int .i32 x.2.1,.int .u8 x.2.2.1,.int .u8 x.2.2.2.1,.int .u8 x.2.2.2.2.1,.int .u8 x.2.2.2.2.2.1,.bool x.2.2.2.2.2.2.1,.int .u8 x.2.2.2.2.2.2.2]
def fc(x:Tri):List Value:=[.int .i32 x.1,.int .i32 x.2.1,.int .i32 x.2.2]
def bu(l:List Rw):List Value:=l.flatMap fS
def dq(l:List Tri):List Value:=l.flatMap fc
def eE(P:Program):List Oper->Act->Option Act
 | [],a=>some a
 | o::rest,a =>
  match o.guard,o.op with
  | none,.build t parts =>
   match P.built t (parts.map fun(i,x)=>(i,a.eval x)).toList with
   | some cells=>eE P rest (a.put o.dst (.agg cells))
   | none=>none
  | _,_=>none
theorem jv{P:Program}{ops:Array Oper}{Q:Exit->Act->World->Prop}{w:World}{rest:List Oper}:∀(bs:List Oper) (a a':Act),eE P bs a=some a'->wpList P ops Q rest a' w->wpList P ops Q (bs++rest) a w
 | [],a,a',h,hk=>by simp only[eE,Option.some.injEq]at h;subst h;exact hk
 | o::bs,a,a',h,hk=>by
  unfold eE at h;split at h
  ·rename_i t parts hg ho;split at h
   ·rename_i cells hc;refine wpList_build hg t parts ho (by rw[hc];rfl) ?_;rw[hc];exact jv bs _ a' h hk
   ·cases h
  ·cases h
theorem cg{P:Program}{ops:Array Oper}{Q:Exit->Act->World->Prop}{a:Act}{w:World}{l:List Oper}(n:Nat)(x y:Operand)(vx vy:Value)
  (hb:(eE P (l.take n) a).map (fun a'=>(a'.eval x,a'.eval y,a'.defers))=some (vx,vy,a.defers))
  (h:∀ a',a'.eval x=vx->a'.eval y=vy->a'.defers=a.defers->wpList P ops Q (l.drop n) a' w):wpList P ops Q l a w:=by
 cases hr:eE P (l.take n) a with
 | none=>rw[hr]at hb;cases hb
 | some a' =>
  rw[hr]at hb;simp only[Option.map_some,Option.some.injEq,Prod.mk.injEq]at hb;have:=jv (P:=P) (ops:=ops) (Q:=Q) (w:=w) (rest:=l.drop n) (l.take n) a a' hr (h a' hb.1 hb.2.1 hb.2.2)
  rwa [take_append_drop]at this
theorem aX{P:Program}{ops:Array Oper}{Q:Exit->Act->World->Prop}{a:Act}{w:World}{rest:List Oper}{o:Oper}(hg:o.guard=none)(ty:TypeId)(ho:o.op=.alloc ty)(z:Array Value)
  (hz:∀ w,(zeroValue ty).run P w=.ok (.agg z) w)
  (h:wpList P ops Q rest (a.put o.dst (.pointer (some ⟨w.heap.size,0,none⟩))) (w.alloc (.cells z ty))):wpList P ops Q (o::rest) a w:=by
 refine wpList_plain hg fun K hK=>?_;unfold Oper.wp execOp;simp only[ho];simp[Instr.alloc,hz,go_sem];exact hK _ _ h
theorem BX(w:World):
  Calls prog 253 #[] w fun e W'=>e=.returned (.agg (bu fZ).toArray)/\Below w.heap.size w W':=by
 obtain⟨z,hz,hzs⟩:∃ z:Array Value,(∀ w,(zeroValue 268).run prog w=.ok (.agg z) w)/\z.size=152:=by
  refine⟨(bu (List.replicate 19 (0,0,0,0,0,0,false,0))).toArray,?_,?_⟩
  ·exact(zero_of_info (P:=prog) (t:=268) (n:=152) (by kernel_rfl)).1
  ·kernel_rfl
 have hi:(prog.info? 268).map (·.size)=some (bu fZ).toArray.size:=by kernel_rfl
 have hi2:(bu fZ).toArray.size=152:=by kernel_rfl
 have h1:(bu fZ).toArray.all (·.oneCell')=true:=by kernel_rfl
 go_enter func253,ntmps253;refine wp_seq (wp_region_lit ?_);refine aX rfl 268 rfl z hz (wpList_nil ?_);refine wp_seq (wp_region_lit ?_);refine cg 20 (.tmp 0) (.tmp 20) (.pointer (some ⟨w.heap.size,0,none⟩)) (.agg (bu fZ).toArray) (by kernel_rfl) ?_;intro a' h0 h20 hd;refine wpList_store_row rfl 268 (.tmp 0) (.tmp 20) rfl w.heap.size _ h0 h20 268 z (heap_alloc_last w _) hi (by rw[hzs,hi2]) h1 (wpList_nil ?_);rw[setRow_alloc_new];refine wp_ret ?_;exact bodyPost_ret (results_cell_row results253 _ _ w.heap.size 268 (bu fZ).toArray (0,0) _ h0 (heap_alloc_last w _) underlying268 rfl hi) hd ⟨rfl,(Below.refl _ w).alloc (le_refl _) _⟩
theorem Cq(w:World):
  Calls prog 255 #[] w fun e W'=>e=.returned (.agg (bu fq).toArray)/\Below w.heap.size w W':=by
 obtain⟨z,hz,hzs⟩:∃ z:Array Value,(∀ w,(zeroValue 272).run prog w=.ok (.agg z) w)/\z.size=192:=by
  refine⟨(bu (List.replicate 24 (0,0,0,0,0,0,false,0))).toArray,?_,?_⟩
  ·exact(zero_of_info (P:=prog) (t:=272) (n:=192) (by kernel_rfl)).1
  ·kernel_rfl
 have hi:(prog.info? 272).map (·.size)=some (bu fq).toArray.size:=by kernel_rfl
 have hi2:(bu fq).toArray.size=192:=by kernel_rfl
 have h1:(bu fq).toArray.all (·.oneCell')=true:=by kernel_rfl
 go_enter func255,ntmps255;refine wp_seq (wp_region_lit ?_);refine aX rfl 272 rfl z hz (wpList_nil ?_);refine wp_seq (wp_region_lit ?_);refine cg 25 (.tmp 0) (.tmp 25) (.pointer (some ⟨w.heap.size,0,none⟩)) (.agg (bu fq).toArray) (by kernel_rfl) ?_;intro a' h0 h20 hd;refine wpList_store_row rfl 272 (.tmp 0) (.tmp 25) rfl w.heap.size _ h0 h20 272 z (heap_alloc_last w _) hi (by rw[hzs,hi2]) h1 (wpList_nil ?_);rw[setRow_alloc_new];refine wp_ret ?_;exact bodyPost_ret (results_cell_row results255 _ _ w.heap.size 272 (bu fq).toArray (0,0) _ h0 (heap_alloc_last w _) underlying272 rfl hi) hd ⟨rfl,(Below.refl _ w).alloc (le_refl _) _⟩
theorem yA(w:World):
  Calls prog 256 #[] w fun e W'=>e=.returned (.agg (bu dj).toArray)/\Below w.heap.size w W':=by
 obtain⟨z,hz,hzs⟩:∃ z:Array Value,(∀ w,(zeroValue 274).run prog w=.ok (.agg z) w)/\z.size=120:=by
  refine⟨(bu (List.replicate 15 (0,0,0,0,0,0,false,0))).toArray,?_,?_⟩
  ·exact(zero_of_info (P:=prog) (t:=274) (n:=120) (by kernel_rfl)).1
  ·kernel_rfl
 have hi:(prog.info? 274).map (·.size)=some (bu dj).toArray.size:=by kernel_rfl
 have hi2:(bu dj).toArray.size=120:=by kernel_rfl
 have h1:(bu dj).toArray.all (·.oneCell')=true:=by kernel_rfl
 go_enter func256,ntmps256;refine wp_seq (wp_region_lit ?_);refine aX rfl 274 rfl z hz (wpList_nil ?_);refine wp_seq (wp_region_lit ?_);refine cg 16 (.tmp 0) (.tmp 16) (.pointer (some ⟨w.heap.size,0,none⟩)) (.agg (bu dj).toArray) (by kernel_rfl) ?_;intro a' h0 h20 hd;refine wpList_store_row rfl 274 (.tmp 0) (.tmp 16) rfl w.heap.size _ h0 h20 274 z (heap_alloc_last w _) hi (by rw[hzs,hi2]) h1 (wpList_nil ?_);rw[setRow_alloc_new];refine wp_ret ?_;exact bodyPost_ret (results_cell_row results256 _ _ w.heap.size 274 (bu dj).toArray (0,0) _ h0 (heap_alloc_last w _) underlying274 rfl hi) hd ⟨rfl,(Below.refl _ w).alloc (le_refl _) _⟩
theorem BY(w:World):
  Calls prog 257 #[] w fun e W'=>e=.returned (.agg (bu later).toArray)/\Below w.heap.size w W':=by
 obtain⟨z,hz,hzs⟩:∃ z:Array Value,(∀ w,(zeroValue 276).run prog w=.ok (.agg z) w)/\z.size=240:=by
  refine⟨(bu (List.replicate 30 (0,0,0,0,0,0,false,0))).toArray,?_,?_⟩
  ·exact(zero_of_info (P:=prog) (t:=276) (n:=240) (by kernel_rfl)).1
  ·kernel_rfl
 have hi:(prog.info? 276).map (·.size)=some (bu later).toArray.size:=by kernel_rfl
 have hi2:(bu later).toArray.size=240:=by kernel_rfl
 have h1:(bu later).toArray.all (·.oneCell')=true:=by kernel_rfl
 go_enter func257,ntmps257;refine wp_seq (wp_region_lit ?_);refine aX rfl 276 rfl z hz (wpList_nil ?_);refine wp_seq (wp_region_lit ?_);refine cg 31 (.tmp 0) (.tmp 31) (.pointer (some ⟨w.heap.size,0,none⟩)) (.agg (bu later).toArray) (by kernel_rfl) ?_;intro a' h0 h20 hd;refine wpList_store_row rfl 276 (.tmp 0) (.tmp 31) rfl w.heap.size _ h0 h20 276 z (heap_alloc_last w _) hi (by rw[hzs,hi2]) h1 (wpList_nil ?_);rw[setRow_alloc_new];refine wp_ret ?_;exact bodyPost_ret (results_cell_row results257 _ _ w.heap.size 276 (bu later).toArray (0,0) _ h0 (heap_alloc_last w _) underlying276 rfl hi) hd ⟨rfl,(Below.refl _ w).alloc (le_refl _) _⟩
theorem zV(w:World):
  Calls prog 291 #[] w fun e W'=>e=.returned (.agg (dq prs).toArray)/\Below w.heap.size w W':=by
 obtain⟨z,hz,hzs⟩:∃ z:Array Value,(∀ w,(zeroValue 303).run prog w=.ok (.agg z) w)/\z.size=240:=by
  refine⟨(dq (List.replicate 80 (0,0,0))).toArray,?_,?_⟩
  ·exact(zero_of_info (P:=prog) (t:=303) (n:=240) (by kernel_rfl)).1
  ·kernel_rfl
 have hi:(prog.info? 303).map (·.size)=some (dq prs).toArray.size:=by kernel_rfl
 have hi2:(dq prs).toArray.size=240:=by kernel_rfl
 have h1:(dq prs).toArray.all (·.oneCell')=true:=by kernel_rfl
 go_enter func291,ntmps291;refine wp_seq (wp_region_lit ?_);refine aX rfl 303 rfl z hz (wpList_nil ?_);refine wp_seq (wp_region_lit ?_);refine cg 81 (.tmp 0) (.tmp 81) (.pointer (some ⟨w.heap.size,0,none⟩)) (.agg (dq prs).toArray) (by kernel_rfl) ?_;intro a' h0 h20 hd;refine wpList_store_row rfl 303 (.tmp 0) (.tmp 81) rfl w.heap.size _ h0 h20 303 z (heap_alloc_last w _) hi (by rw[hzs,hi2]) h1 (wpList_nil ?_);rw[setRow_alloc_new];refine wp_ret ?_;exact bodyPost_ret (results_cell_row results291 _ _ w.heap.size 303 (dq prs).toArray (0,0) _ h0 (heap_alloc_last w _) underlying303 rfl hi) hd ⟨rfl,(Below.refl _ w).alloc (le_refl _) _⟩
end D
end Go.Proofs.YtmkompnhefhngaaGreatDoor
namespace Go.Proofs
open Go.Shelf Go.RowKit Go.Lib Go.Sort
shelf_lay SlLaysO.n16 Slso 16 at Tryz as Tryz.search
end Go.Proofs
namespace Go.Proofs.YtmkompnhefhngaaGreatDoor
open Tryz Go.RowKit
namespace D
open Go.RowKit Go.Lib Go.Sort Go.Shelf
theorem hid'{p:Prop}(h:p):Hid p:=h
theorem below_drewN{B:Nat}{a w:World}(h:Below B a w)(n:Nat):Below B a (w.drewN n):=⟨h.os,h.tape,h.output,h.size,h.block⟩
def zr:Rw:=(0,0,0,0,0,0,false,0)
def gi(r:Int)(x:Rw):Bool:=decide (x.1<=r/\r<=x.2.1)
def cw(d:List Rw)(r:Int):Rw:=(d.find? (gi r)).getD zr
def rising:List Rw->Bool
 | []=>true
 | [x]=>decide (x.1<=x.2.1)
 | x::y::l=>decide (x.1<=x.2.1)&&decide (x.2.1<y.1)&&rising (y::l)
theorem iw{x:Rw}{l:List Rw}(h:rising (x::l)=true):rising l=true:=by
 cases l with
 | nil=>rfl
 | cons y l=>simp only[rising,and_eq_true]at h;exact h.2
theorem jK:∀ {x:Rw} {l:List Rw},rising (x::l)=true->∀ y∈l,x.2.1<y.1/\y.1<=y.2.1
 | x,[],_,y,hy=>by simp at hy
 | x,z::l,h,y,hy=>by
  have ht:=iw h;simp only[rising,and_eq_true,decide_eq_true_eq]at h
  have hz:z.1<=z.2.1:=by
   cases l with
   | nil=>simpa[rising]using ht
   | cons u l=>simp only[rising,and_eq_true,decide_eq_true_eq]at ht;exact ht.1.1
  rcases List.mem_cons.1 hy with rfl | hy
  ·exact⟨h.1.2,hz⟩
  ·have:=jK ht y hy;exact⟨by have:=h.1.2;omega,this.2⟩
def ahead(d:List Rw)(r:Int):Nat:=d.countP (fun x=>!decide (r<=x.2.1))
theorem Jw(d:List Rw)(r:Int):ahead d r<=d.length:=List.countP_le_length
theorem zY:∀(d:List Rw) (r:Int),rising d=true ->
  cw d r=if h:ahead d r<d.length then (if r<(d[ahead d r]).1 then zr else d[ahead d r]) else zr
 | [],r,_=>by simp[cw,ahead]
 | x::l,r,h=>by
  have ht:=iw h;have ha:=jK h;by_cases hx:r<=x.2.1
  ·have h0:ahead (x::l) r=0:=by
    unfold ahead;rw[List.countP_eq_zero];intro y hy;rcases List.mem_cons.1 hy with rfl | hy
    ·simpa using hx
    ·have:=ha y hy;have:r<=y.2.1:=by omega
     simpa using this
   have hl:ahead (x::l) r<(x::l).length:=by rw[h0];simp
   rw[dif_pos hl];have he:(x::l)[ahead (x::l) r]=x:=by simp[h0]
   rw[he];by_cases hlo:r<x.1
   ·rw[if_pos hlo]
    have:(x::l).find? (gi r)=none:=by
     rw[find?_eq_none];intro y hy;rcases List.mem_cons.1 hy with rfl | hy
     ·simp[gi];omega
     ·have:=ha y hy;simp[gi];omega
    unfold cw;rw[this];rfl
   ·rw[if_neg hlo];unfold cw;rw[List.find?_cons_of_pos (by simp[gi];omega)];rfl
  ·have h1:ahead (x::l) r=ahead l r+1:=by unfold ahead;rw[List.countP_cons_of_pos (by simpa using hx)]
   have hp:cw (x::l) r=cw l r:=by unfold cw;rw[List.find?_cons_of_neg (by simp[gi];omega)]
   rw[hp,zY l r ht];by_cases hl:ahead l r<l.length
   ·have hl':ahead (x::l) r<(x::l).length:=by rw[h1];simpa using hl
    have he:(x::l)[ahead (x::l) r]=l[ahead l r]:=by simp[h1]
    rw[dif_pos hl,dif_pos hl',he]
   ·rw[dif_neg hl,dif_neg (by rw[h1];simpa using hl)]
theorem Cu(l:List Rw):∀ j i,j<l.length->i<8->(bu l)[j * 8+i]? = (fS (l[j]?.getD zr))[i]? := by
 induction l with
 | nil=>intro j i hj;simp at hj
 | cons s l ih =>
  intro j i hj hi;have e:bu (s::l)=fS s++bu l:=rfl;have hl8:(fS s).length=8:=rfl;rcases j with _ | j
  ·rw[e,List.getElem?_append_left (by omega)];simp
  ·have h:=ih j i (by simpa using hj) hi;rw[e,List.getElem?_append_right (by omega),hl8,show(j+1) * 8+i - 8=j * 8+i by omega,h];simp
def RowsIn(w:World)(b:Nat)(d:List Rw):Prop:=∃ t,w.heap[b]? = some (.cells (bu d).toArray t)
theorem RowsIn.cell{w:World}{b:Nat}{d:List Rw}(h:RowsIn w b d)(j i:Nat)(hj:j<d.length)(hi:i<8):w.cell? ⟨b,j * 8+i,none⟩=(fS (d[j]?.getD zr))[i]? := by obtain⟨t,h⟩:=h;rw[cell_of_row w b _ _ t (0,0) h,<-Cu d j i hj hi];simp
theorem RowsIn.below{A B:World}{n:Nat}{b:Nat}{d:List Rw}(h:RowsIn A b d)(hb:Below n A B)(hn:b<n):RowsIn B b d:=by obtain⟨t,h⟩:=h;exact⟨t,(hb.block b hn).trans h⟩
theorem zi(bl br blk cap i:Nat)(d:List Rw)(r:Int)(W:World)(hi:i<d.length)(hlen:d.length<=1000)
  (hl:W.cell? ⟨bl,0,none⟩=some (.slice (some ⟨blk,0,none⟩) d.length cap)) (hr:W.cell? ⟨br,0,none⟩=some (.int .i32 r)) (hc:W.cell? ⟨blk,i * 8+1,none⟩=some (.int .i32 (d[i]?.getD zr).2.1)) :
  Calls prog 290 (#[.int .i64 i]++#[.pointer (some ⟨br,0,none⟩),.pointer (some ⟨bl,0,none⟩)]) W fun e w'=>e=.returned (.bool (decide (r<=(d[i]?.getD zr).2.1)))/\∃ q,w'=W.drewN q:=by
 generalize (d[i]?.getD zr).2.1=y at hc ⊢;have hiz:(i:Int)<(d.length:Int):=by omega
 go_enter func290,ntmps290;go_wp2
 go_region
 all_goals go_wp2
 all_goals go_ret
 all_goals exact⟨by first | rfl | simp,1,rfl⟩
theorem lr{B:Nat}{w w1:World}{g:Nat}{cs:Array Value}(h:Below B w w1)(hg:B<=g):Below B w (w1.setRow g cs) :=
 ⟨h.os,h.tape,h.output,by have:=h.size;simpa using this,fun i hi=>by rw[setRow_other w1 g i cs (by omega)];exact h.block i hi⟩
theorem LV{d:List Rw}{r:Int}(hd:rising d=true){a b:Nat}(hab:a<=b)(hb:b<d.length)(h:decide (r<=(d[a]?.getD zr).2.1)=true):decide (r<=(d[b]?.getD zr).2.1)=true:=by
 induction d generalizing a b with
 | nil=>simp at hb
 | cons x l ih =>
  have ht:=iw hd;rcases b with _ | b
  ·obtain rfl:a=0:=by omega
   exact h
  ·rcases a with _ | a
   ·have hb':b<l.length:=by simpa using hb
    have:=jK hd (l[b]) (getElem_mem hb');simp only[List.getElem?_cons_zero,getD_some,decide_eq_true_eq,List.getElem?_cons_succ,getElem?_eq_getElem hb']at h ⊢;omega
   ·simp only[List.getElem?_cons_succ]at h ⊢;exact ih ht (by omega) (by simpa using hb) h
theorem tH(d:List Rw)(r:Int):(List.range d.length).countP (fun i=>!decide (r<=(d[i]?.getD zr).2.1))=ahead d r:=by
 have:(List.range d.length).map (fun i=>d[i]?.getD zr)=d:=by
  apply List.ext_getElem
  ·simp
  ·intro i h1 h2;simp[getElem?_eq_getElem h2]
 unfold ahead
 conv=>rhs;rw[<-this,List.countP_map]
 rfl
theorem jo(blk cap:Nat)(d:List Rw)(r:Int)(w:World)(hlen:d.length<=1000)(hd:rising d=true)(hR:RowsIn w blk d):
  Calls prog 254 #[.slice (some ⟨blk,0,none⟩) d.length cap,.int .i32 r] w fun e W'=>e=.returned (.agg (fS (cw d r)).toArray)/\Below w.heap.size w W':=by
 have hblk:blk<w.heap.size:=by obtain⟨t,h⟩:=hR;exact(Array.getElem?_eq_some_iff.1 h).1
 obtain⟨z,hz⟩:∃ z:Array Value,z=#[.int .i32 0,.int .i32 0,.int .u8 0,.int .u8 0,.int .u8 0,.int .u8 0,.bool false,.int .u8 0]:=⟨_,rfl⟩;obtain⟨W0,hW0⟩:∃ W0,W0=((w.alloc (.cells #[.slice (some ⟨blk,0,none⟩) d.length cap] 271)).alloc (.cells #[.int .i32 r] 21)).alloc (.cells #[.int .i32 0,.int .i32 0,.int .u8 0,.int .u8 0,.int .u8 0,.int .u8 0,.bool false,.int .u8 0] 238):=⟨_,rfl⟩;have hsize:W0.heap.size=w.heap.size+1+1+1:=by rw[hW0];simp
 have ca:W0.cell? ⟨w.heap.size,0,none⟩=some (.slice (some ⟨blk,0,none⟩) d.length cap):=by rw[hW0];exact cell_alloc_sl _ (cell_alloc_sl _ (cell_new_sl w _ _))
 have cx:W0.cell? ⟨w.heap.size+1,0,none⟩=some (.int .i32 r):=by rw[hW0];have:=cell_new_sl (w.alloc (.cells #[.slice (some ⟨blk,0,none⟩) d.length cap] 271)) (.int .i32 r) 21;rw[World.size_alloc]at this;exact cell_alloc_sl _ this
 have hB0:Below w.heap.size w W0:=by rw[hW0];exact(((Below.refl _ w).alloc (le_refl _) _).alloc (by simp) _).alloc (by simp;omega) _
 have hR0:=hR.below hB0 hblk;have cz:W0.heap[w.heap.size+2]? = some (.cells z 238):=by rw[hW0,hz];have:=heap_alloc_last ((w.alloc (.cells #[.slice (some ⟨blk,0,none⟩) d.length cap] 271)).alloc (.cells #[.int .i32 r] 21)) (.cells #[.int .i32 0,.int .i32 0,.int .u8 0,.int .u8 0,.int .u8 0,.int .u8 0,.bool false,.int .u8 0] 238);simpa using this
 have eg:∀ args w,(callFunc 290 args).run prog w=.ok (.enter 290 args) w:=enters_of func290 (by kernel_rfl) rfl
 have hS:=Any.sort_Search Tryz.search 290 #[.pointer (some ⟨w.heap.size+1,0,none⟩),.pointer (some ⟨w.heap.size,0,none⟩)] d.length (fun i=>decide (r<=(d[i]?.getD zr).2.1)) W0 eg (by omega)
  (fun m os i hi=>(zi w.heap.size (w.heap.size+1) blk cap i d r _ hi hlen (cell_grown (by simp[hsize];omega) ca m os) (cell_grown (by simp[hsize]) cx m os) (cell_grown (by simp[hsize];omega) ((hR0.cell i 1 hi (by omega)).trans rfl) m os)).mono
    fun _ _ ⟨he,q,hq⟩=>⟨he,q,#[],by rw[hq,grow_empty]⟩) (fun a b hab hb h=>LV hd hab hb h)
 rw[tH]at hS;change Calls prog 289 _ _ _ at hS;have hpk:=zY d r hd;obtain⟨A,hA⟩:∃ A,A=ahead d r:=⟨_,rfl⟩;have hA1:A<=d.length:=by rw[hA];exact Jw d r
 rw[<-hA]at hS;have HS:=hid' hS;have HA:=hid' hA;clear hS hA hR;go_enter func254,ntmps254;go_wp2_with fail;rw[<-hW0];refine HS.out.mono ?_;rintro e w1 ⟨rfl,q,os,hw1⟩;have hB1:Below W0.heap.size W0 w1:=by rw[hw1];exact below_grown_sl _ W0 q os (le_refl _)
 have ca1:w1.cell? ⟨w.heap.size,0,none⟩=some (.slice (some ⟨blk,0,none⟩) d.length cap):=by rw[hw1];exact cell_grown (by simp[hsize];omega) ca q os
 have cx1:w1.cell? ⟨w.heap.size+1,0,none⟩=some (.int .i32 r):=by rw[hw1];exact cell_grown (by simp[hsize]) cx q os
 have hR1:RowsIn w1 blk d:=hR0.below hB1 (by omega);have cz1:w1.heap[w.heap.size+2]? = some (.cells z 238):=(hB1.block _ (by omega)).trans cz;have hBw:Below w.heap.size w w1:=hB0.trans (hB1.mono (by omega));have hz8:z.size=8:=by rw[hz];rfl
 have HZ:=hid' hz8;have HCZ:=hid' cz1;have HR1:=hid' hR1;have HB:=hid' hBw;have HP:=hid' hpk;have HI:Hid ((prog.info? 238).map (·.size)=some 8):=by show _=_;kernel_rfl
 have hfin:∀(cs:Array Value) (tm:Array Value) (n:Nat),tm.getD 4 undef=.pointer (some ⟨w.heap.size+2,0,none⟩)->cs.size=8->(results Tryz.f254 tm).run prog ((w1.drewN n).setRow (w.heap.size+2) cs)=.ok (.agg cs) ((w1.drewN n).setRow (w.heap.size+2) cs):=by intro cs tm n h1 h2;exact results_cell_row results254 tm _ (w.heap.size+2) 238 cs (0,0) _ h1 (setRow_heap (w1.drewN n) _ z cs 238 (0,0) HCZ.out) underlying238 rfl (by rw[h2];exact HI.out)
 have HF:=hid' hfin;have hbl:∀(cs:Array Value) (n:Nat),Below w.heap.size w ((w1.drewN n).setRow (w.heap.size+2) cs):=by intro cs n;exact lr (below_drewN hBw n) (by omega)
 have HBL:=hid' hbl;clear hbl hfin hw1 ca cx hR0 cz eg HS hB1 hR1 hBw hpk hz8 hz cz1 hB0;by_cases hlt:A<d.length
 ·have hlt':(A:Int)<(d.length:Int):=by omega
  have hne:((A:Int)==(d.length:Int))=false:=by simp;omega
  obtain⟨x,hx⟩:∃ x,x=d[A]?.getD zr:=⟨_,rfl⟩;have aY:=fun j hj=>HR1.out.cell A j hlt hj;rw[<-hx]at aY
  have HP2:Hid (cw d r=if r<x.1 then zr else x):=by
   have e:ahead d r=A:=HA.out.symm;have:=HP.out;simp only[e]at this;rw[dif_pos hlt]at this;have e2:d[A]=x:=by rw[hx,getElem?_eq_getElem hlt];rfl
   rw[e2]at this;exact this
  obtain⟨x0,x1,x2,x3,x4,x5,x6,x7⟩:=x;have c0:w1.cell? ⟨blk,A * 8,none⟩=some (.int .i32 x0):=aY 0 (by omega);have c1:w1.cell? ⟨blk,A * 8+1,none⟩=some (.int .i32 x1):=aY 1 (by omega);have c2:w1.cell? ⟨blk,A * 8+2,none⟩=some (.int .u8 x2):=aY 2 (by omega);have c3:w1.cell? ⟨blk,A * 8+3,none⟩=some (.int .u8 x3):=aY 3 (by omega);have c4:w1.cell? ⟨blk,A * 8+4,none⟩=some (.int .u8 x4):=aY 4 (by omega);have c5:w1.cell? ⟨blk,A * 8+5,none⟩=some (.int .u8 x5):=aY 5 (by omega);have c6:w1.cell? ⟨blk,A * 8+6,none⟩=some (.bool x6):=aY 6 (by omega);have c7:w1.cell? ⟨blk,A * 8+7,none⟩=some (.int .u8 x7):=aY 7 (by omega);clear aY hx HP HA HR1;by_cases hlo:r<x0
  ·have hlob:decide (r<x0)=true:=by simpa using hlo
   have HG:Hid (cw d r=zr):=by show _=_;rw[HP2.out,if_pos hlo]
   clear HP2;go_wp2_with fail
   go_quiet (fail)
   go_wp2_with((refine wpList_store_row rfl 238 (.tmp 4) (.tmp 23) rfl (w.heap.size+1+1) #[.int .i32 0,.int .i32 0,.int .u8 0,.int .u8 0,.int .u8 0,.int .u8 0,.bool false,.int .u8 0] rfl rfl 238 z (by exact HCZ.out) (by exact HI.out) (by exact HZ.out) (by kernel_rfl) (wpList_nil ?_)));refine bodyPost_ret (HF.out _ _ _ rfl rfl) rfl ⟨by rw[HG.out];rfl,HBL.out _ _⟩
  ·have hlob:decide (r<x0)=false:=by simpa using hlo
   have HG:Hid (cw d r=(x0,x1,x2,x3,x4,x5,x6,x7)):=by show _=_;rw[HP2.out,if_neg hlo]
   clear HP2;go_wp2_with fail
   go_quiet (fail)
   go_wp2_with((refine wpList_store_row rfl 238 (.tmp 4) (.tmp 27) rfl (w.heap.size+1+1) #[.int .i32 x0,.int .i32 x1,.int .u8 x2,.int .u8 x3,.int .u8 x4,.int .u8 x5,.bool x6,.int .u8 x7] rfl rfl 238 z (by exact HCZ.out) (by exact HI.out) (by exact HZ.out) (by kernel_rfl) (wpList_nil ?_)));refine bodyPost_ret (HF.out _ _ _ rfl rfl) rfl ⟨by rw[HG.out];rfl,HBL.out _ _⟩
 ·have hnl:¬ (A:Int)<(d.length:Int):=by omega
  have hne:((A:Int)==(d.length:Int))=true:=by simp;omega
  have HG:Hid (cw d r=zr):=by have e:ahead d r=A:=HA.out.symm;have:=HP.out;simp only[e]at this;rw[dif_neg hlt]at this;exact this
  clear HP HA HR1;go_wp2_with fail
  go_quiet (fail)
  go_wp2_with((refine wpList_store_row rfl 238 (.tmp 4) (.tmp 23) rfl (w.heap.size+1+1) #[.int .i32 0,.int .i32 0,.int .u8 0,.int .u8 0,.int .u8 0,.int .u8 0,.bool false,.int .u8 0] rfl rfl 238 z (by exact HCZ.out) (by exact HI.out) (by exact HZ.out) (by kernel_rfl) (wpList_nil ?_)));refine bodyPost_ret (HF.out _ _ _ rfl rfl) rfl ⟨by rw[HG.out];rfl,HBL.out _ _⟩
def fnd(r:Int):Rw:=if r<768 then cw fZ r else if r<1424 then cw fq r else if r<7680 then cw dj r else cw later r
theorem sv:rising fZ=true:=by decide
theorem sx:rising fq=true:=by decide
theorem qA:rising dj=true:=by decide
theorem sw:rising later=true:=by decide
theorem Ks(g:Nat)(W:World):(Instr.sliceAt 268 (.pointer (some ⟨g,0,none⟩)) none none none).run prog W=.ok (.slice (some ⟨g,0,none⟩) 19 19) W:=by
 have hl:prog.arrayLen 268=19:=by kernel_rfl
 rw[run_sliceAt_array_all W 268 ⟨g,0,none⟩ (by kernel_rfl),hl];have hs:(sizeOf (prog.elem 268)).run prog W=.ok 8 W:=by kernel_rfl
 rw[hs];simp only[Result.andThen,slicedAt];rfl
theorem Kr(g:Nat)(W:World):(Instr.sliceAt 272 (.pointer (some ⟨g,0,none⟩)) none none none).run prog W=.ok (.slice (some ⟨g,0,none⟩) 24 24) W:=by
 have hl:prog.arrayLen 272=24:=by kernel_rfl
 rw[run_sliceAt_array_all W 272 ⟨g,0,none⟩ (by kernel_rfl),hl];have hs:(sizeOf (prog.elem 272)).run prog W=.ok 8 W:=by kernel_rfl
 rw[hs];simp only[Result.andThen,slicedAt];rfl
theorem Kq(g:Nat)(W:World):(Instr.sliceAt 274 (.pointer (some ⟨g,0,none⟩)) none none none).run prog W=.ok (.slice (some ⟨g,0,none⟩) 15 15) W:=by
 have hl:prog.arrayLen 274=15:=by kernel_rfl
 rw[run_sliceAt_array_all W 274 ⟨g,0,none⟩ (by kernel_rfl),hl];have hs:(sizeOf (prog.elem 274)).run prog W=.ok 8 W:=by kernel_rfl
 rw[hs];simp only[Result.andThen,slicedAt];rfl
theorem Ko(g:Nat)(W:World):(Instr.sliceAt 276 (.pointer (some ⟨g,0,none⟩)) none none none).run prog W=.ok (.slice (some ⟨g,0,none⟩) 30 30) W:=by
 have hl:prog.arrayLen 276=30:=by kernel_rfl
 rw[run_sliceAt_array_all W 276 ⟨g,0,none⟩ (by kernel_rfl),hl];have hs:(sizeOf (prog.elem 276)).run prog W=.ok 8 W:=by kernel_rfl
 rw[hs];simp only[Result.andThen,slicedAt];rfl
def Pr(T:TypeId)(L:List Rw)(z c:Array Value):Prop:=(∀ w,(zeroValue T).run prog w=.ok (.agg z) w)/\Hid (c=(bu L).toArray)/\Hid ((prog.info? T).map (·.size)=some c.size)/\Hid (z.size=c.size)/\Hid (c.all (·.oneCell')=true)
theorem Fv:∃ z c,Pr 268 fZ z c:=⟨(bu (List.replicate 19 (0,0,0,0,0,0,false,0))).toArray,_,(zero_of_info (P:=prog) (t:=268) (n:=152) (by kernel_rfl)).1,rfl,by show _=_;kernel_rfl,by show _=_;kernel_rfl,by show _=_;kernel_rfl⟩
theorem Fx:∃ z c,Pr 272 fq z c:=⟨(bu (List.replicate 24 (0,0,0,0,0,0,false,0))).toArray,_,(zero_of_info (P:=prog) (t:=272) (n:=192) (by kernel_rfl)).1,rfl,by show _=_;kernel_rfl,by show _=_;kernel_rfl,by show _=_;kernel_rfl⟩
theorem By:∃ z c,Pr 274 dj z c:=⟨(bu (List.replicate 15 (0,0,0,0,0,0,false,0))).toArray,_,(zero_of_info (P:=prog) (t:=274) (n:=120) (by kernel_rfl)).1,rfl,by show _=_;kernel_rfl,by show _=_;kernel_rfl,by show _=_;kernel_rfl⟩
theorem Fw:∃ z c,Pr 276 later z c:=⟨(bu (List.replicate 30 (0,0,0,0,0,0,false,0))).toArray,_,(zero_of_info (P:=prog) (t:=276) (n:=240) (by kernel_rfl)).1,rfl,by show _=_;kernel_rfl,by show _=_;kernel_rfl,by show _=_;kernel_rfl⟩
theorem wG(r:Int)(w:World):
  Calls prog 232 #[.int .i32 r] w fun e W'=>e=.returned (.agg (fS (fnd r)).toArray)/\Below w.heap.size w W':=by
 obtain⟨F,hF⟩:∃ F,F=fnd r:=⟨_,rfl⟩;rw[<-hF];unfold fnd at hF;have HF:=hid' hF;clear hF;have HI:Hid ((prog.info? 238).map (·.size)=some 8):=by show _=_;kernel_rfl
 by_cases h1:r<768;rotate_left
 focus
  by_cases h2:r<1424;rotate_left
  focus
   by_cases h3:r<7680;rotate_left
 focus
  obtain⟨z,c,hz,HC,HCI,HCS,HCO⟩:=Fw;have HCALL:=hid' BY;have HAM:=hid' (fun b W (h:W.heap[b]? = some (.cells c 276 (0,0)))=>jo b 30 later r W (by decide) sw ⟨276,by rw[<-HC.out];exact h⟩);rw[if_neg h1,if_neg h2,if_neg h3]at HF;have hsl:=Ko;rw[<-HC.out]at HCALL;rw[<-HF.out]at HAM;have h1b:decide (r<768)=false:=by simpa using h1
  have h2b:decide (r<1424)=false:=by simpa using h2
  have h3b:decide (r<7680)=false:=by simpa using h3
 rotate_left
 focus
  obtain⟨z,c,hz,HC,HCI,HCS,HCO⟩:=By;have HCALL:=hid' yA;have HAM:=hid' (fun b W (h:W.heap[b]? = some (.cells c 274 (0,0)))=>jo b 15 dj r W (by decide) qA ⟨274,by rw[<-HC.out];exact h⟩);rw[if_neg h1,if_neg h2,if_pos h3]at HF;have hsl:=Kq;rw[<-HC.out]at HCALL;rw[<-HF.out]at HAM;have h1b:decide (r<768)=false:=by simpa using h1
  have h2b:decide (r<1424)=false:=by simpa using h2
  have h3b:decide (r<7680)=true:=by simpa using h3
 rotate_left
 focus
  obtain⟨z,c,hz,HC,HCI,HCS,HCO⟩:=Fx;have HCALL:=hid' Cq;have HAM:=hid' (fun b W (h:W.heap[b]? = some (.cells c 272 (0,0)))=>jo b 24 fq r W (by decide) sx ⟨272,by rw[<-HC.out];exact h⟩);rw[if_neg h1,if_pos h2]at HF;have hsl:=Kr;rw[<-HC.out]at HCALL;rw[<-HF.out]at HAM;have h1b:decide (r<768)=false:=by simpa using h1
  have h2b:decide (r<1424)=true:=by simpa using h2
 rotate_left
 focus
  obtain⟨z,c,hz,HC,HCI,HCS,HCO⟩:=Fv;have HCALL:=hid' BX;have HAM:=hid' (fun b W (h:W.heap[b]? = some (.cells c 268 (0,0)))=>jo b 19 fZ r W (by decide) sv ⟨268,by rw[<-HC.out];exact h⟩);rw[if_pos h1]at HF;have hsl:=Ks;rw[<-HC.out]at HCALL;rw[<-HF.out]at HAM;have h1b:decide (r<768)=true:=by simpa using h1
 rotate_left
 all_goals
  clear HF HC;go_enter func232,ntmps232;go_wp2_with fail;refine(HCALL.out _).mono ?_;rintro e w1 ⟨rfl,hB1⟩;have HCELL:Hid (w1.heap[w.heap.size]? = some (.cells #[.int .i32 0,.int .i32 0,.int .u8 0,.int .u8 0,.int .u8 0,.int .u8 0,.bool false,.int .u8 0] 238)):=by show _=_;rw[hB1.block _ (by simp)];exact heap_alloc_last w _
  have HBW:=hid' (((Below.refl _ w).alloc (le_refl _) _).trans (hB1.mono (by simp)));have hsz1:w.heap.size+1<=w1.heap.size:=by have:=hB1.size;simpa using this
  clear hB1;go_wp2_with((refine wpList_store_row rfl _ _ _ rfl w1.heap.size c rfl rfl _ z (by exact heap_alloc_last w1 _) (by exact HCI.out) (by exact HCS.out) (by exact HCO.out) (wpList_nil ?_);rw[setRow_alloc_new]));refine(HAM.out _ _ (heap_alloc_last w1 _)).mono ?_;rintro e w2 ⟨rfl,hB2⟩;have HCELL2:Hid (w2.heap[w.heap.size]? = some (.cells #[.int .i32 0,.int .i32 0,.int .u8 0,.int .u8 0,.int .u8 0,.int .u8 0,.bool false,.int .u8 0] 238)):=by show _=_;rw[hB2.block _ (by simp;omega),Below.heap_alloc _ _ _ (by omega)];exact HCELL.out
  have HBW2:=hid' ((HBW.out.alloc HBW.out.size _).trans (hB2.mono (by simp;omega)));obtain⟨cs,hcs⟩:∃ cs:Array Value,cs=(fS F).toArray:=⟨_,rfl⟩;have HS8:Hid (cs.size=8):=by show _=_;rw[hcs];rfl
  have HO8:Hid (cs.all (·.oneCell')=true):=by show _=_;rw[hcs];kernel_rfl
  rw[<-hcs];have HEQ:=hid' hcs;clear hcs hB2;go_wp2_with((refine wpList_store_row rfl _ (.tmp 2) _ rfl w.heap.size cs rfl rfl _ _ (by exact HCELL2.out) (by rw[HS8.out];exact HI.out) (by rw[HS8.out];rfl) (by exact HO8.out) (wpList_nil ?_)));exact bodyPost_ret (results_cell_row results232 _ _ w.heap.size 238 cs (0,0) _ rfl (setRow_heap _ _ _ cs 238 (0,0) HCELL2.out) underlying238 rfl (by rw[HS8.out];exact HI.out)) rfl ⟨by rw[HEQ.out],lr HBW2.out (le_refl _)⟩
theorem asks(r:Int)(w:World):(Calls prog 207 #[.int .i32 r] w fun e W'=>e=.returned (.int .u8 (fnd r).2.2.1)/\Below w.heap.size w W')/\(Calls prog 284 #[.int .i32 r] w fun e W'=>e=.returned (.int .u8 (fnd r).2.2.2.2.1)/\Below w.heap.size w W')/\(Calls prog 314 #[.int .i32 r] w fun e W'=>e=.returned (.int .u8 (fnd r).2.2.2.2.2.2.2)/\Below w.heap.size w W')/\(Calls prog 262 #[.int .i32 r] w fun e W'=>e=.returned (.int .u8 (fnd r).2.2.2.2.2.1)/\Below w.heap.size w W')/\(Calls prog 274 #[.int .i32 r] w fun e W'=>e=.returned (.bool (fnd r).2.2.2.2.2.2.1)/\Below w.heap.size w W'):=by
 obtain⟨⟨x0,x1,x2,x3,x4,x5,x6,x7⟩,hx⟩:∃ x,x=fnd r:=⟨_,rfl⟩;have hcall:=wG r;rw[<-hx]at hcall ⊢;have HC:=hid' hcall;clear hcall hx;have hf0:∀ W:World,(Instr.field 238 (.agg #[.int .i32 x0,.int .i32 x1,.int .u8 x2,.int .u8 x3,.int .u8 x4,.int .u8 x5,.bool x6,.int .u8 x7]) 2).run prog W=.ok (.int .u8 x2) W:=fun W=>by kernel_rfl
 have hf1:∀ W:World,(Instr.field 238 (.agg #[.int .i32 x0,.int .i32 x1,.int .u8 x2,.int .u8 x3,.int .u8 x4,.int .u8 x5,.bool x6,.int .u8 x7]) 4).run prog W=.ok (.int .u8 x4) W:=fun W=>by kernel_rfl
 have hf2:∀ W:World,(Instr.field 238 (.agg #[.int .i32 x0,.int .i32 x1,.int .u8 x2,.int .u8 x3,.int .u8 x4,.int .u8 x5,.bool x6,.int .u8 x7]) 7).run prog W=.ok (.int .u8 x7) W:=fun W=>by kernel_rfl
 have hf3:∀ W:World,(Instr.field 238 (.agg #[.int .i32 x0,.int .i32 x1,.int .u8 x2,.int .u8 x3,.int .u8 x4,.int .u8 x5,.bool x6,.int .u8 x7]) 5).run prog W=.ok (.int .u8 x5) W:=fun W=>by kernel_rfl
 have hf4:∀ W:World,(Instr.field 238 (.agg #[.int .i32 x0,.int .i32 x1,.int .u8 x2,.int .u8 x3,.int .u8 x4,.int .u8 x5,.bool x6,.int .u8 x7]) 6).run prog W=.ok (.bool x6) W:=fun W=>by kernel_rfl
 refine⟨?_,?_,?_,?_,?_⟩
 focus go_enter func207,ntmps207
 rotate_left
 focus go_enter func284,ntmps284
 rotate_left
 focus go_enter func314,ntmps314
 rotate_left
 focus go_enter func262,ntmps262
 rotate_left
 focus go_enter func274,ntmps274
 rotate_left
 all_goals
  go_wp2_with fail;refine(HC.out _).mono ?_;simp only[fS];rintro e w1 ⟨rfl,hB1⟩;go_wp2;go_ret;exact⟨rfl,hB1⟩
theorem nZ(r:Int)(w:World):Calls prog 207 #[.int .i32 r] w fun e W'=>e=.returned (.int .u8 (fnd r).2.2.1)/\Below w.heap.size w W':=(asks r w).1
theorem qg(r:Int)(w:World):Calls prog 284 #[.int .i32 r] w fun e W'=>e=.returned (.int .u8 (fnd r).2.2.2.2.1)/\Below w.heap.size w W':=(asks r w).2.1
theorem vU(r:Int)(w:World):Calls prog 314 #[.int .i32 r] w fun e W'=>e=.returned (.int .u8 (fnd r).2.2.2.2.2.2.2)/\Below w.heap.size w W':=(asks r w).2.2.1
theorem rP(r:Int)(w:World):Calls prog 262 #[.int .i32 r] w fun e W'=>e=.returned (.int .u8 (fnd r).2.2.2.2.2.1)/\Below w.heap.size w W':=(asks r w).2.2.2.1
theorem He(r:Int)(w:World):Calls prog 274 #[.int .i32 r] w fun e W'=>e=.returned (.bool (fnd r).2.2.2.2.2.2.1)/\Below w.heap.size w W':=(asks r w).2.2.2.2
def aB(w:World)(v:Value)(zs:List Int):Prop :=
 ∃ a cap,v=.slice a zs.length cap/\((a=none->cap=0)/\zs.length<=cap)/\(0<zs.length->∃ b,a=some ⟨b,0,none⟩/\w.heap[b]? = some (.cells (zs.map (Value.int .i32)).toArray 21 (0,0)))
theorem aB.nil(w:World):aB w (.slice none 0 0) []:=⟨none,0,rfl,⟨fun _=>rfl,le_refl _⟩,fun h=>by simp at h⟩
theorem aB.new1(w:World)(a:Int):aB (w.alloc (.cells #[.int .i32 a] 21)) (.slice (some ⟨w.heap.size,0,none⟩) 1 1) [a] :=
 ⟨_,1,rfl,⟨(fun h=>by cases h),le_refl _⟩,fun _=>⟨w.heap.size,rfl,heap_alloc_last w _⟩⟩
theorem aB.new2(w:World)(a b:Int):aB (w.alloc (.cells #[.int .i32 a,.int .i32 b] 21)) (.slice (some ⟨w.heap.size,0,none⟩) 2 2) [a,b] :=
 ⟨_,2,rfl,⟨(fun h=>by cases h),le_refl _⟩,fun _=>⟨w.heap.size,rfl,heap_alloc_last w _⟩⟩
def Ans(l:List Int)(w:World)(e:Ending)(W':World):Prop:=(∃ v,e=.returned v/\aB W' v l)/\Below w.heap.size w W'
theorem Ans.nil{l:List Int}{w W':World}(h:l=[])(hb:Below w.heap.size w W'):Ans l w (.returned (.slice none 0 0)) W':=by subst h;exact⟨⟨_,rfl,aB.nil _⟩,hb⟩
theorem Ans.one{l:List Int}{w W:World}{a:Int}(h:l=[a])(hb:Below w.heap.size w W):Ans l w (.returned (.slice (some ⟨W.heap.size,0,none⟩) 1 1)) (W.alloc (.cells #[.int .i32 a] 21)):=by subst h;exact⟨⟨_,rfl,aB.new1 _ _⟩,hb.alloc hb.size _⟩
theorem Ans.two{l:List Int}{w W:World}{a b:Int}(h:l=[a,b])(hb:Below w.heap.size w W):Ans l w (.returned (.slice (some ⟨W.heap.size,0,none⟩) 2 2)) (W.alloc (.cells #[.int .i32 a,.int .i32 b] 21)):=by subst h;exact⟨⟨_,rfl,aB.new2 _ _ _⟩,hb.alloc hb.size _⟩
def Ax:List (Int×Int):=[(65,32),(192,32),(216,32),(913,32),(931,32),(1040,32),(178,-128),(904,37),(910,63),(1029,80),(65296,-65248),(65345,-65248),(65313,-65216),(66560,40)]
def kZ(r:Int):Int:=(Ax.lookup r).getD 0
def mC:List (Int×List Int):=[(170,[97]),(185,[49]),(186,[111]),(376,[255]),(469,[470]),(902,[940]),(908,[972]),(1025,[1105]),(1032,[1112]),(7776,[7777]),(7778,[7779]),(7784,[7785]),(7838,[115,115]),(8486,[969]),(8490,[107]),(8491,[229]),(12290,[46]),(65294,[46]),(65377,[46]),(64257,[102,105]),(65285,[37]),(65293,[45]),(65295,[47])]
def inst(r:Int):List Int:=(mC.lookup r).getD []
def sgl(r:Int):Int:=(([(8486,937),(8490,75),(8491,197)]:List (Int×Int)).lookup r).getD 0
theorem oe(r:Int)(w:World):Calls prog 308 #[.int .i32 r] w fun e W'=>e=.returned (.int .i32 (sgl r))/\W'=w:=by
 obtain⟨L,hL⟩:∃ L,L=sgl r:=⟨_,rfl⟩;have HL:=hid' hL;rw[<-hL];clear hL;go_enter func308,ntmps308;go_wp2;all_goals go_ret
 all_goals refine⟨?_,rfl⟩
 all_goals rw[HL.out]
 all_goals clear HL
 all_goals first | (rename_i h;obtain rfl:=eq_of_beq h;rfl) | (simp[sgl,List.lookup, *];done)
def z3:Tri:=(0,0,0)
def dY:List Tri->Bool
 | x::y::l=>decide (x.1<y.1)&&dY (y::l)
 | _=>true
theorem gG{x:Tri}{l:List Tri}(h:dY (x::l)=true):dY l=true:=by
 cases l with
 | nil=>rfl
 | cons y l=>simp only[dY,and_eq_true]at h;exact h.2
theorem ix:∀ {x:Tri} {l:List Tri},dY (x::l)=true->∀ y∈l,x.1<y.1
 | x,[],_,y,hy=>by simp at hy
 | x,z::l,h,y,hy=>by
  have ht:=gG h;simp only[dY,and_eq_true,decide_eq_true_eq]at h;rcases List.mem_cons.1 hy with rfl | hy
  ·exact h.1
  ·have:=ix ht y hy;omega
def bK(d:List Tri)(r:Int):Nat:=d.countP (fun x=>!decide (r<=x.1))
theorem DI(d:List Tri)(r:Int):bK d r<=d.length:=List.countP_le_length
theorem wH:∀(d:List Tri) (r:Int),dY d=true ->
  d.find? (fun x=>x.1==r)=if h:bK d r<d.length then (if (d[bK d r]).1=r then some (d[bK d r]) else none) else none
 | [],r,_=>by simp[bK]
 | x::l,r,h=>by
  have ht:=gG h;have ha:=ix h;by_cases hx:r<=x.1
  ·have h0:bK (x::l) r=0:=by
    unfold bK;rw[List.countP_eq_zero];intro y hy;rcases List.mem_cons.1 hy with rfl | hy
    ·simpa using hx
    ·have:=ha y hy;have:r<=y.1:=by omega
     simpa using this
   have hl:bK (x::l) r<(x::l).length:=by rw[h0];simp
   rw[dif_pos hl];have he:(x::l)[bK (x::l) r]=x:=by simp[h0]
   rw[he];by_cases hlo:x.1=r
   ·rw[if_pos hlo,List.find?_cons_of_pos (by simpa using hlo)]
   ·rw[if_neg hlo,find?_eq_none];intro y hy;rcases List.mem_cons.1 hy with rfl | hy
    ·simpa using hlo
    ·have:=ha y hy;simp;omega
  ·have h1:bK (x::l) r=bK l r+1:=by unfold bK;rw[List.countP_cons_of_pos (by simpa using hx)]
   rw[List.find?_cons_of_neg (by simp;omega),wH l r ht];by_cases hl:bK l r<l.length
   ·have hl':bK (x::l) r<(x::l).length:=by rw[h1];simpa using hl
    have he:(x::l)[bK (x::l) r]=l[bK l r]:=by simp[h1]
    rw[dif_pos hl,dif_pos hl',he]
   ·rw[dif_neg hl,dif_neg (by rw[h1];simpa using hl)]
theorem yj{d:List Tri}{r:Int}(hd:dY d=true){a b:Nat}(hab:a<=b)(hb:b<d.length)(h:decide (r<=(d[a]?.getD z3).1)=true):decide (r<=(d[b]?.getD z3).1)=true:=by
 induction d generalizing a b with
 | nil=>simp at hb
 | cons x l ih =>
  have ht:=gG hd;rcases b with _ | b
  ·obtain rfl:a=0:=by omega
   exact h
  ·rcases a with _ | a
   ·have hb':b<l.length:=by simpa using hb
    have:=ix hd (l[b]) (getElem_mem hb');simp only[List.getElem?_cons_zero,getD_some,decide_eq_true_eq,List.getElem?_cons_succ,getElem?_eq_getElem hb']at h ⊢;omega
   ·simp only[List.getElem?_cons_succ]at h ⊢;exact ih ht (by omega) (by simpa using hb) h
theorem qI(d:List Tri)(r:Int):(List.range d.length).countP (fun i=>!decide (r<=(d[i]?.getD z3).1))=bK d r:=by
 have:(List.range d.length).map (fun i=>d[i]?.getD z3)=d:=by
  apply List.ext_getElem
  ·simp
  ·intro i h1 h2;simp[getElem?_eq_getElem h2]
 unfold bK
 conv=>rhs;rw[<-this,List.countP_map]
 rfl
theorem Cv(l:List Tri):(dq l).length=l.length * 3:=by
 induction l with
 | nil=>rfl
 | cons s l ih=>simp only[dq,List.flatMap_cons,List.length_append,length_cons]at ih ⊢;rw[ih];simp[fc];omega
theorem rC(l:List Tri):∀ j i,j<l.length->i<3->(dq l)[j * 3+i]? = (fc (l[j]?.getD z3))[i]? := by
 induction l with
 | nil=>intro j i hj;simp at hj
 | cons s l ih =>
  intro j i hj hi;have e:dq (s::l)=fc s++dq l:=rfl;have hl8:(fc s).length=3:=rfl;rcases j with _ | j
  ·rw[e,List.getElem?_append_left (by omega)];simp
  ·have h:=ih j i (by simpa using hj) hi;rw[e,List.getElem?_append_right (by omega),hl8,show(j+1) * 3+i - 3=j * 3+i by omega,h];simp
theorem oq:dY prs=true:=by decide
def dcp(r:Int):List Int:=if sgl r≠0 then [sgl r] else match prs.find? (fun x=>x.1==r) with
 | some p=>[p.2.1,p.2.2]
 | none=>[]
theorem wW(br ba i:Nat)(y r:Int)(W:World)(hi:i<80)
  (hr:W.cell? ⟨br,0,none⟩=some (.int .i32 r)) (hc:W.cell? ⟨ba,i * 3,none⟩=some (.int .i32 y)) :
  Calls prog 309 (#[.int .i64 i]++#[.pointer (some ⟨br,0,none⟩),.pointer (some ⟨ba,0,none⟩)]) W fun e w'=>e=.returned (.bool (decide (r<=y)))/\∃ q,w'=W.drewN q:=by
 have hiz:(i:Int)<80:=by omega
 go_enter func309,ntmps309;go_wp2
 go_region
 all_goals go_wp2
 all_goals go_ret
 all_goals exact⟨by first | rfl | simp,1,rfl⟩
theorem yQ(r:Int)(w:World):Calls prog 296 #[.int .i32 r] w fun e W'=>Ans (dcp r) w e W':=by
 obtain⟨L,hL⟩:∃ L,L=dcp r:=⟨_,rfl⟩;have HL:=hid' hL;rw[<-hL];clear hL;obtain⟨S,hS⟩:∃ S,S=sgl r:=⟨_,rfl⟩;have HS:=hid' hS;clear hS;have hBx:Below w.heap.size w (w.alloc (.cells #[.int .i32 r] 21)):=(Below.refl _ w).alloc (le_refl _) _;by_cases hs0:S=0
 ·have HL2:Hid (L=match prs.find? (fun x=>x.1==r) with | some p=>[p.2.1,p.2.2] | none=>[]):=by show _=_;rw[HL.out];unfold dcp;rw[<-HS.out,if_neg (by simpa using hs0)]
  subst hs0;clear HL
  obtain⟨z,hz,hzs⟩:∃ z:Array Value,(∀ w,(zeroValue 303).run prog w=.ok (.agg z) w)/\z.size=240:=by
   refine⟨(dq (List.replicate 80 (0,0,0))).toArray,?_,?_⟩
   ·exact(zero_of_info (P:=prog) (t:=303) (n:=240) (by kernel_rfl)).1
   ·kernel_rfl
  obtain⟨c,hc⟩:∃ c:Array Value,c=(dq prs).toArray:=⟨_,rfl⟩;have HC:=hid' hc;have HCI:Hid ((prog.info? 303).map (·.size)=some c.size):=by show _=_;rw[hc];kernel_rfl
  have HCS:Hid (z.size=c.size):=by show _=_;rw[hzs,hc];kernel_rfl
  have HCO:Hid (c.all (·.oneCell')=true):=by show _=_;rw[hc];kernel_rfl
  have hcall:=zV;rw[<-hc]at hcall;have HCALL:=hid' hcall;clear hc hzs hcall;have HBX:=hid' hBx;clear hBx;go_enter func296,ntmps296;go_wp2_with fail;refine(oe r _).mono ?_;rw[<-HS.out];rintro e w0 ⟨rfl,hw0⟩;have hc0:w0.cell? ⟨w.heap.size,0,none⟩=some (.int .i32 r):=by rw[hw0];exact cell_new_sl w _ _
  have hB0:Below w.heap.size w w0:=by rw[hw0];exact HBX.out
  have hs0:w0.heap.size=w.heap.size+1:=by rw[hw0];simp
  clear hw0 HBX;go_wp2_with fail;refine(HCALL.out _).mono ?_;rintro e w1 ⟨rfl,hB1⟩;have hc1:w1.cell? ⟨w.heap.size,0,none⟩=some (.int .i32 r):=(hB1.cell (p:=⟨w.heap.size,0,none⟩) (by show w.heap.size<_;omega)).trans hc0;have hBw1:Below w.heap.size w w1:=hB0.trans (hB1.mono (by omega));have hs1:w.heap.size+1<=w1.heap.size:=by have:=hB1.size;omega
  clear hB1 hB0 hc0 hs0;go_wp2_with((refine wpList_store_row rfl 303 (.tmp 4) (.tmp 12) rfl w1.heap.size c rfl rfl 303 z (by exact heap_alloc_last w1 _) (by exact HCI.out) (by exact HCS.out) (by exact HCO.out) (wpList_nil ?_);rw[setRow_alloc_new]));obtain⟨W0,hW0⟩:∃ W0,W0=w1.alloc (.cells c 303):=⟨_,rfl⟩;rw[<-hW0];have aq:W0.heap[w1.heap.size]? = some (.cells c 303):=by rw[hW0];exact heap_alloc_last w1 _
  have hsize:W0.heap.size=w1.heap.size+1:=by rw[hW0];simp
  have cr:W0.cell? ⟨w.heap.size,0,none⟩=some (.int .i32 r):=by rw[hW0];exact cell_alloc_sl _ hc1
  have cp:∀ i j,i<80->j<3->W0.cell? ⟨w1.heap.size,i * 3+j,none⟩=(fc (prs[i]?.getD z3))[j]? := by intro i j hi hj;rw[cell_of_row _ _ _ _ 303 (0,0) aq,HC.out,<-rC prs i j hi hj];simp
  have hBw0:Below w.heap.size w W0:=by rw[hW0];exact hBw1.alloc hBw1.size _
  have eg:∀ args w,(callFunc 309 args).run prog w=.ok (.enter 309 args) w:=enters_of func309 (by kernel_rfl) rfl
  have hS:=Any.sort_Search Tryz.search 309 #[.pointer (some ⟨w.heap.size,0,none⟩),.pointer (some ⟨w1.heap.size,0,none⟩)] prs.length (fun i=>decide (r<=(prs[i]?.getD z3).1)) W0 eg (by decide)
   (fun m os i hi=>(wW w.heap.size w1.heap.size i _ r _ hi (cell_grown (by simp[hsize];omega) cr m os) (cell_grown (by simp[hsize]) (cp i 0 hi (by omega)) m os)).mono
     fun _ _ ⟨he,q,hq⟩=>⟨he,q,#[],by rw[hq,grow_empty]⟩) (fun a b hab hb h=>yj oq hab hb h)
  rw[qI]at hS;have hS':Calls prog 289 #[.int .i64 80,.func (.func 309) #[] #[.pointer (some ⟨w.heap.size,0,none⟩),.pointer (some ⟨w1.heap.size,0,none⟩)]] W0 fun e w'=>e=.returned (.int .i64 (bK prs r:Nat))/\∃ q os,w'=grow (W0.drewN q) os:=hS;have hfa:=wH prs r oq;obtain⟨A,hA⟩:∃ A,A=bK prs r:=⟨_,rfl⟩;have hA1:A<=80:=by rw[hA];exact DI prs r
  rw[<-hA]at hS';have HA:=hid' hA;refine hS'.mono ?_;rintro e w2 ⟨rfl,q,os,hw2⟩;have hB2:Below W0.heap.size W0 w2:=by rw[hw2];exact below_grown_sl _ W0 q os (le_refl _)
  have hBw2:Below w.heap.size w w2:=hBw0.trans (hB2.mono (by omega));have cr2:w2.cell? ⟨w.heap.size,0,none⟩=some (.int .i32 r):=(hB2.cell (p:=⟨w.heap.size,0,none⟩) (by show w.heap.size<_;omega)).trans cr;have cp2:∀ i j,i<80->j<3->w2.cell? ⟨w1.heap.size,i * 3+j,none⟩=(fc (prs[i]?.getD z3))[j]? := fun i j hi hj=>(hB2.cell (p:=⟨w1.heap.size,i * 3+j,none⟩) (by show w1.heap.size<_;omega)).trans (cp i j hi hj);have HBW:=hid' hBw2;have HFA:=hid' hfa;have HCP:=hid' cp2;clear hS hS' hw2 hB2 hBw2 cr cp eg aq hBw0 hW0 hfa cp2 hA hc1 hBw1;by_cases hlt:A<80
  ·have hlt':(A:Int)<80:=by omega
   have hne:((A:Int)==80)=false:=by simp;omega
   obtain⟨x,hx⟩:∃ x,x=prs[A]?.getD z3:=⟨_,rfl⟩;have aY:=fun j hj=>HCP.out A j hlt hj;rw[<-hx]at aY
   have HP2:Hid (prs.find? (fun x=>x.1==r)=if x.1=r then some x else none):=by
    have:=HFA.out;have e:bK prs r=A:=HA.out.symm;simp only[e]at this;rw[dif_pos (show A<prs.length from hlt)]at this;have e2:prs[A]'(show A<prs.length from hlt)=x:=by rw[hx,getElem?_eq_getElem (show A<prs.length from hlt)];rfl
    rw[e2]at this;exact this
   obtain⟨x0,x1,x2⟩:=x;have c0:w2.cell? ⟨w1.heap.size,A * 3,none⟩=some (.int .i32 x0):=aY 0 (by omega);have c1:w2.cell? ⟨w1.heap.size,A * 3+1,none⟩=some (.int .i32 x1):=aY 1 (by omega);have c2:w2.cell? ⟨w1.heap.size,A * 3+2,none⟩=some (.int .i32 x2):=aY 2 (by omega);clear aY hx HCP HFA;by_cases he:x0=r
   ·subst he;have HG:Hid (L=[x1,x2]):=by show _=_;rw[HL2.out,HP2.out,if_pos rfl]
    clear HP2 HL2;go_wp2_with fail
    go_quiet (fail)
    go_wp2
    go_region
    all_goals go_wp2
    all_goals go_ret
    exact Ans.two (W:=w2.drewN (nq+1)) HG.out (below_drewN HBW.out _)
   ·have hneb:(r != x0)=true:=by simp;omega
    have hneb2:(r==x0)=false:=by simp;omega
    have HG:Hid (L=[]):=by show _=_;rw[HL2.out,HP2.out,if_neg he]
    clear HP2 HL2;go_wp2_with fail
    go_quiet (fail)
    go_wp2;go_ret;exact Ans.nil HG.out (below_drewN HBW.out _)
  ·have hne:((A:Int)==80)=true:=by simp;omega
   have HG:Hid (L=[]):=by show _=_;have:=HFA.out;have e:bK prs r=A:=HA.out.symm;simp only[e]at this;rw[dif_neg (show ¬ A<prs.length from hlt)]at this;rw[HL2.out,this]
   clear HCP HFA HL2;go_wp2_with fail
   go_quiet (fail)
   go_wp2;go_ret;exact Ans.nil HG.out (below_drewN HBW.out _)
 ·have HL2:Hid (L=[S]):=by show _=_;rw[HL.out];unfold dcp;rw[<-HS.out,if_pos hs0]
  have hdb:(S != 0)=true:=by simpa using hs0
  have hdb2:(S==0)=false:=by simpa using hs0
  clear HL;go_enter func296,ntmps296;go_wp2_with fail;refine(oe r _).mono ?_;rw[<-HS.out];rintro e w1 ⟨rfl,rfl⟩;go_wp2;go_ret;have:=Ans.one (w:=w) (W:=w.alloc (.cells #[.int .i32 r] 21)) HL2.out hBx;rw[World.size_alloc]at this;exact this
def prf(d:List Tri)(a b:Int):Int×Bool:=match d.find? (fun x=>x.2.1==a&&x.2.2==b) with
 | some p=>(p.1,true)
 | none=>(0,false)
theorem La{d:List Tri}{k:Nat}{a b:Int}(hk:k<d.length)(h:(d[k]?.getD z3).2.1=a/\(d[k]?.getD z3).2.2=b):prf (d.drop k) a b=((d[k]?.getD z3).1,true):=by rw[drop_eq_getElem_cons hk];rw[getElem?_eq_getElem hk]at h ⊢;simp only[getD_some]at h ⊢;unfold prf;rw[List.find?_cons_of_pos (by simp[h.1,h.2])]
theorem Fq{d:List Tri}{k:Nat}{a b:Int}(hk:k<d.length)(h:¬ ((d[k]?.getD z3).2.1=a/\(d[k]?.getD z3).2.2=b)):prf (d.drop k) a b=prf (d.drop (k+1)) a b:=by rw[drop_eq_getElem_cons hk];rw[getElem?_eq_getElem hk]at h;simp only[getD_some]at h;unfold prf;rw[List.find?_cons_of_neg (by simpa using h)]
theorem Lb{d:List Tri}{k:Nat}{a b:Int}(hk:d.length<=k):prf (d.drop k) a b=(0,false):=by rw[List.drop_of_length_le hk];rfl
theorem Cw(l:List Tri)(j:Nat)(hj:j<l.length):(dq l).toArray.extract (j * 3) (j * 3+3)=(fc (l[j]?.getD z3)).toArray:=by
 apply Array.ext_getElem?;intro i;by_cases hi:i<3
 ·have:=rC l j i hj hi;rw[Array.getElem?_extract,if_pos (by simp[Cv];omega)];simpa using this
 ·rw[Array.getElem?_eq_none (by simp;omega),Array.getElem?_eq_none (by simp[fc];omega)]
theorem Ms(j:Nat)(hj:j<80)(W:World):(Instr.index 303 (.agg (dq prs).toArray) (.int .i64 (j:Int))).run prog W=.ok (.agg (fc (prs[j]?.getD z3)).toArray) W:=by rw[<-Cw prs j hj];generalize (dq prs).toArray=c;simp[Instr.index,asIntOf,run_underlying underlying303,part,Tryz.sizeOf302];intro h;omega
theorem oE(a b:Int)(w:World):Calls prog 261 #[.int .i32 a,.int .i32 b] w fun e W'=>e=.returned (.tuple #[.int .i32 (prf prs a b).1,.bool (prf prs a b).2])/\Below w.heap.size w W':=by
 obtain⟨⟨R1,R2⟩,hR⟩:∃ R,R=prf prs a b:=⟨_,rfl⟩;have HR0:Hid (prf (prs.drop 0) a b=(R1,R2)):=hR.symm;rw[<-hR];clear hR;dsimp only;obtain⟨c,hc⟩:∃ c:Array Value,c=(dq prs).toArray:=⟨_,rfl⟩;have hix:=Ms;have hcall:=zV;rw[<-hc]at hcall hix;have HCALL:=hid' hcall;have HIX:=hid' hix;clear hc hcall hix;have HI:Hid ((prog.info? 302).map (·.size)=some 3):=by show _=_;kernel_rfl
 go_enter func261,ntmps261;go_wp2_with fail;refine(HCALL.out _).mono ?_;rintro e w1 ⟨rfl,hB1⟩;go_wp2_with fail
 go_loopw [9] (fun i wr=>∃ k:Nat,k<=80/\i=.int .i64 k/\Below w.heap.size w wr/\Hid (prf (prs.drop k) a b=(R1,R2))) (fun i _=>80 - (intOf i).toNat)
 case atStart=>exact⟨0,by omega,rfl,hB1,HR0⟩
 case round =>
  obtain⟨k,hk,rfl,hB,HR⟩:=hrel;clear HR0 hB1;by_cases hlt:k<80
  ·have hlt':(k:Int)<80:=by omega
   have hix:=HIX.out k hlt;obtain⟨⟨x0,x1,x2⟩,hx⟩:∃ x,x=prs[k]?.getD z3:=⟨_,rfl⟩;rw[<-hx]at hix;have hhit:=@La prs k a b (show k<prs.length from hlt);have hmiss:=@Fq prs k a b (show k<prs.length from hlt);rw[<-hx]at hhit hmiss;dsimp only at hhit hmiss;have HH:=hid' hhit;have HM:=hid' hmiss;clear hx hhit hmiss;simp only[fc]at hix;by_cases h1:x1=a
   ·have h1b:(x1==a)=true:=by simpa using h1
    by_cases h2:x2=b
    ·have h2b:(x2==b)=true:=by simpa using h2
     have HE:Hid (R1=x0/\R2=true):=by have:=HR.out;rw[HH.out ⟨h1,h2⟩]at this;cases this;exact⟨rfl,rfl⟩
     clear HR HH HM h1 h2;go_wp2;go_ret2;exact⟨by rw[HE.out.1,HE.out.2];rfl,hB.alloc hB.size _⟩
    ·have h2b:(x2==b)=false:=by simpa using h2
     have HE:Hid (prf (prs.drop (k+1)) a b=(R1,R2)):=by show _=_;rw[<-HM.out (fun h=>h2 h.2)];exact HR.out
     clear HR HH HM h1 h2;go_wp2
     go_roundw
     case rel=>exact⟨k+1,by omega,by go_num,hB.alloc hB.size _,HE⟩
     case measure=>simp[intOf];omega
   ·have h1b:(x1==a)=false:=by simpa using h1
    have HE:Hid (prf (prs.drop (k+1)) a b=(R1,R2)):=by show _=_;rw[<-HM.out (fun h=>h1 h.1)];exact HR.out
    clear HR HH HM h1;go_wp2
    go_roundw
    case rel=>exact⟨k+1,by omega,by go_num,hB.alloc hB.size _,HE⟩
    case measure=>simp[intOf];omega
  ·have hlt':¬ (k:Int)<80:=by omega
   have HE:Hid (R1=0/\R2=false):=by have:=HR.out;rw[Lb (show prs.length<=k by show 80<=k;omega)]at this;cases this;exact⟨rfl,rfl⟩
   clear HR;go_wp2;go_ret2;exact⟨by rw[HE.out.1,HE.out.2];rfl,hB⟩
def tab:List Rw:=fZ++fq++dj++later
theorem iY{d:List Rw}{m r:Int}(h:∀ x∈d,m<=x.1)(hr:r<m):d.find? (gi r)=none:=by rw[find?_eq_none];intro x hx;have:=h x hx;simp[gi];omega
theorem sS{d:List Rw}{m r:Int}(h:∀ x∈d,x.2.1<m)(hr:m<=r):d.find? (gi r)=none:=by rw[find?_eq_none];intro x hx;have:=h x hx;simp[gi];omega
theorem MG(r:Int):fnd r=cw tab r:=by
 have g0:∀ x∈fq,(768:Int)<=x.1:=by decide
 have g1:∀ x∈dj,(1424:Int)<=x.1:=by decide
 have g2:∀ x∈later,(7680:Int)<=x.1:=by decide
 have k0:∀ x∈fZ,x.2.1<(768:Int):=by decide
 have k1:∀ x∈fq,x.2.1<(1424:Int):=by decide
 have k2:∀ x∈dj,x.2.1<(7680:Int):=by decide
 unfold fnd cw tab;simp only[List.find?_append];by_cases h1:r<768
 ·rw[if_pos h1,iY g0 h1,iY (m:=1424) g1 (by omega),iY (m:=7680) g2 (by omega)];simp
 ·rw[if_neg h1,sS k0 (by omega)];by_cases h2:r<1424
  ·rw[if_pos h2,iY g1 h2,iY (m:=7680) g2 (by omega)];simp
  ·rw[if_neg h2,sS k1 (by omega)];by_cases h3:r<7680
   ·rw[if_pos h3,iY g2 h3];simp
   ·rw[if_neg h3,sS k2 (by omega)];simp
end D
namespace N
abbrev Pt:=Int×Int
def z2:Pt:=(0,0)
theorem hid{p:Prop}(h:p):Hid p:=h
def Pts(W:World)(b o:Nat)(l:List Pt):Prop:=∃ cur t,W.heap[b]? = some (.cells cur t (0,0)) /\
 ∀ j,j<l.length->cur[o+j * 2]? = some (.int .i32 (l[j]?.getD z2).1)/\cur[o+j * 2+1]? = some (.int .u8 (l[j]?.getD z2).2)
structure Chg(b o n:Nat)(W W':World):Prop where
 g:W.grownBy W' (some b)
 blk:∃ cur cur' t,W.heap[b]? = some (.cells cur t (0,0))/\W'.heap[b]? = some (.cells cur' t (0,0))/\cur'.size=cur.size/\∀ k,k<o\/o+n * 2<=k->cur'[k]? = cur[k]?
theorem Pts.lt{W:World}{b o:Nat}{l:List Pt}(h:Pts W b o l):b<W.heap.size:=by obtain⟨cur,t,h,_⟩:=h;exact(Array.getElem?_eq_some_iff.1 h).1
theorem Pts.c0{W:World}{b o:Nat}{l:List Pt}(h:Pts W b o l)(j:Nat)(hj:j<l.length):W.cell? ⟨b,o+j * 2,none⟩=some (.int .i32 (l[j]?.getD z2).1):=by obtain⟨cur,t,h,hc⟩:=h;simp[World.cell?,h,(hc j hj).1]
theorem Pts.c1{W:World}{b o:Nat}{l:List Pt}(h:Pts W b o l)(j:Nat)(hj:j<l.length):W.cell? ⟨b,o+j * 2+1,none⟩=some (.int .u8 (l[j]?.getD z2).2):=by obtain⟨cur,t,h,hc⟩:=h;simp[World.cell?,h,(hc j hj).2]
theorem Pts.fr{W:World}{b o:Nat}{l:List Pt}(h:Pts W b o l)(k:Nat):W.frozen? ⟨b,k,none⟩=false:=by obtain⟨cur,t,h,hc⟩:=h;simp[World.frozen?,h]
theorem Pts.block{W W':World}{b o:Nat}{l:List Pt}(h:Pts W b o l)(e:W'.heap[b]? = W.heap[b]?):Pts W' b o l:=by obtain⟨cur,t,h,hc⟩:=h;exact⟨cur,t,e.trans h,hc⟩
theorem Pts.below{W W':World}{b o n:Nat}{l:List Pt}(h:Pts W b o l)(hB:Below n W W')(hn:b<n):Pts W' b o l:=h.block (hB.block b hn)
theorem Pts.drew{W:World}{b o:Nat}{l:List Pt}(h:Pts W b o l):Pts W.drew b o l:=h
theorem Chg.refl{W:World}{b o:Nat}{l:List Pt}(h:Pts W b o l)(n:Nat):Chg b o n W W:=by obtain⟨cur,t,h,_⟩:=h;exact⟨⟨rfl,rfl,rfl,le_refl _,fun _ _ _=>rfl⟩,cur,cur,t,h,h,rfl,fun _ _=>rfl⟩
theorem Chg.trans{A B C:World}{b o n:Nat}(h:Chg b o n A B)(k:Chg b o n B C):Chg b o n A C:=by
 obtain⟨c1,c2,t,e1,e2,s1,f1⟩:=h.blk;obtain⟨d1,d2,t',e3,e4,s2,f2⟩:=k.blk;rw[e2]at e3;cases e3
 exact⟨⟨k.g.os.trans h.g.os,k.g.tape.trans h.g.tape,k.g.output.trans h.g.output,le_trans h.g.size k.g.size,fun i hi hne=>(k.g.block i (Nat.lt_of_lt_of_le hi h.g.size) hne).trans (h.g.block i hi hne)⟩,
   c1,d2,t,e1,e4,s2.trans s1,fun i hi=>(f2 i hi).trans (f1 i hi)⟩
theorem Chg.below{A B C:World}{b o n:Nat}(h:Chg b o n A B)(hB:Below B.heap.size B C):Chg b o n A C:=by
 obtain⟨c1,c2,t,e1,e2,s1,f1⟩:=h.blk;have hb:b<B.heap.size:=(Array.getElem?_eq_some_iff.1 e2).1
 exact⟨⟨hB.os.trans h.g.os,hB.tape.trans h.g.tape,hB.output.trans h.g.output,le_trans h.g.size hB.size,fun i hi hne=>(hB.block i (Nat.lt_of_lt_of_le hi h.g.size)).trans (h.g.block i hi hne)⟩,
   c1,c2,t,e1,(hB.block b hb).trans e2,s1,f1⟩
theorem Chg.drew{A B:World}{b o n:Nat}(h:Chg b o n A B):Chg b o n A B.drew:=⟨⟨h.g.os,h.g.tape,h.g.output,h.g.size,h.g.block⟩,h.blk⟩
theorem heap_setCell_same(W:World)(b k:Nat)(v:Value)(cur:Array Value)(t:TypeId)(h:W.heap[b]? = some (.cells cur t (0,0))):(W.setCell ⟨b,k,none⟩ v).heap[b]? = some (.cells (cur.setIfInBounds k v) t (0,0)):=by rw[setCell_eq_setRow W b k cur t (0,0) v h];exact setRow_heap W b cur _ t (0,0) h
theorem size_setCell'(W:World)(a:Addr)(v:Value):(W.setCell a v).heap.size=W.heap.size:=by simp[World.setCell]
theorem Chg.set{A B:World}{b o n:Nat}(h:Chg b o n A B)(k:Nat)(v:Value)(h1:o<=k)(h2:k<o+n * 2):Chg b o n A (B.setCell ⟨b,k,none⟩ v):=by
 obtain⟨c1,c2,t,e1,e2,s1,f1⟩:=h.blk;refine⟨⟨h.g.os,h.g.tape,h.g.output,by rw[size_setCell'];exact h.g.size,fun i hi hne=>?_⟩,c1,c2.setIfInBounds k v,t,e1,heap_setCell_same B b k v c2 t e2,by simpa using s1,fun i hi=>?_⟩
 ·rw[Below.heap_setCell B ⟨b,k,none⟩ v i (fun e=>hne (by rw[e]))];exact h.g.block i hi hne
 ·rw[getElem?_setIfInBounds_ne (by omega)];exact f1 i hi
theorem Pts.set{W:World}{b o:Nat}{l:List Pt}(h:Pts W b o l)(i:Nat)(x:Pt)(hi:i<l.length):
  Pts ((W.setCell ⟨b,o+i * 2,none⟩ (.int .i32 x.1)).setCell ⟨b,o+i * 2+1,none⟩ (.int .u8 x.2)) b o (l.set i x):=by
 obtain⟨cur,t,h,hc⟩:=h;refine⟨_,t,heap_setCell_same _ b _ _ _ t (heap_setCell_same W b _ _ cur t h),fun j hj=>?_⟩;rw[List.length_set]at hj;have hci:=hc i hi
 have hsz1:o+i * 2+1<cur.size:=by
  by_cases hh:o+i * 2+1<cur.size
  ·exact hh
  ·rw[Array.getElem?_eq_none (Nat.le_of_not_lt hh)]at hci;simp at hci
 by_cases hij:j=i
 ·subst hij;rw[getElem?_setIfInBounds_ne (by omega),Array.getElem?_setIfInBounds_self_of_lt (by omega),Array.getElem?_setIfInBounds_self_of_lt (by simpa using hsz1)];simp[hi]
 ·rw[getElem?_setIfInBounds_ne (by omega),getElem?_setIfInBounds_ne (by omega),getElem?_setIfInBounds_ne (by omega),getElem?_setIfInBounds_ne (by omega)];rw[List.getElem?_set_ne (by omega)];exact hc j hj
structure aI(w:World) where
 W:World
 h:Below w.heap.size w W
theorem az{P:Program}{id:Nat}{Q:Exit->Act->World->Prop}{a:Act}{w:World}{l:List Oper}(hm:P.follows .mixedOrders=true)(hB:Region.lexB .any l.toArray=true)
  (h:wpQuiet P l.toArray (fun w'=>∃ x:aI w,w'=x.W) (fun a'=>∀ w',(∃ x:aI w,w'=x.W)->Q .normal a' w') l a):(Code.region id l.toArray true).wp P Q a w :=
 wp_region_quiet (C:=fun w'=>∃ x:aI w,w'=x.W) hm hB ⟨⟨{ w with drawn:=w.drawn+1 },⟨rfl,rfl,rfl,le_refl _,fun _ _=>rfl⟩⟩,rfl⟩ (by simpa using h)
theorem aI.call{w:World}{f:FuncId}{args:Array Value}{v:Value}(x:aI w)(h:Calls prog f args x.W fun e w'=>e=.returned v/\Below x.W.heap.size x.W w'):Calls prog f args x.W fun e w'=>e=.returned v/\∃ y:aI w,w'=y.W :=
 h.mono fun _ w' ⟨he,hb⟩=>⟨he,⟨w',x.h.trans (hb.mono x.h.size)⟩,rfl⟩
def Srt(l:List Pt):Prop:=l.Pairwise (fun a b=>a.2<=b.2)
structure Stb(l l':List Pt):Prop where
 perm:l'.Perm l
 fil:∀ k,l'.filter (fun x=>x.2==k)=l.filter (fun x=>x.2==k)
theorem Stb.refl(l:List Pt):Stb l l:=⟨.refl _,fun _=>rfl⟩
theorem Stb.trans{a b c:List Pt}(h:Stb a b)(k:Stb b c):Stb a c:=⟨k.perm.trans h.perm,fun i=>(k.fil i).trans (h.fil i)⟩
theorem Stb.append{a b c d:List Pt}(h:Stb a b)(k:Stb c d):Stb (a++c) (b++d):=⟨h.perm.append k.perm,fun i=>by rw[filter_append,filter_append,h.fil,k.fil]⟩
theorem Stb.len{a b:List Pt}(h:Stb a b):b.length=a.length:=h.perm.length_eq
theorem Stb.swap{X Y:List Pt}(h:∀ x∈X,∀ y∈Y,x.2≠y.2):Stb (X++Y) (Y++X):=by
 refine⟨List.perm_append_comm,fun k=>?_⟩;rw[filter_append,filter_append];by_cases hx:X.filter (fun x=>x.2==k)=[]
 ·rw[hx];simp
 ·have:Y.filter (fun x=>x.2==k)=[]:=by rw[List.filter_eq_nil_iff];intro y hy he;obtain⟨x,hx'⟩:=List.exists_mem_of_ne_nil _ hx;rw[List.mem_filter]at hx';exact h x hx'.1 y hy (by have:=hx'.2;simp at this he;omega)
  rw[this];simp
theorem Srt.nil:Srt []:=List.Pairwise.nil
theorem zF(x:Pt):Srt [x]:=List.pairwise_singleton _ _
theorem aT{a b:List Pt}:Srt (a++b)↔Srt a/\Srt b/\∀ x∈a,∀ y∈b,x.2<=y.2:=List.pairwise_append
theorem da{x:Pt}{b:List Pt}:Srt (x::b)↔(∀ y∈b,x.2<=y.2)/\Srt b:=List.pairwise_cons
theorem nY:∀ {a b:List Pt},Srt a->Srt b->Stb a b->a=b
 | [],b,_,_,h=>by have:=h.perm.length_eq;exact(List.length_eq_zero_iff.1 (by simpa using this)).symm
 | x::a,[],_,_,h=>by have:=h.perm.length_eq;simp at this
 | x::a,y::b,ha,hb,h=>by
  have hxm:x∈y::b:=h.perm.mem_iff.2 List.mem_cons_self;have hym:y∈x::a:=h.perm.mem_iff.1 List.mem_cons_self
  have h1:x.2<=y.2:=by
   rcases List.mem_cons.1 hym with rfl | hy
   ·exact Int.le_refl _
   ·exact(da.1 ha).1 y hy
  have h2:y.2<=x.2:=by
   rcases List.mem_cons.1 hxm with rfl | hx
   ·exact Int.le_refl _
   ·exact(da.1 hb).1 x hx
  have e:x.2=y.2:=by omega
  have hf:=h.fil x.2;rw[List.filter_cons_of_pos (by simp[e]),List.filter_cons_of_pos (by simp)]at hf;have hxy:y=x:=(List.cons.inj hf).1;subst hxy
  have hs:Stb a b:=⟨(List.perm_cons y).1 h.perm,fun k=>by
    have:=h.fil k
    by_cases hk:(y.2==k)=true
    · simp only[List.filter_cons,hk,if_true]at this;exact(List.cons.inj this).2
    · simp only[List.filter_cons,hk]at this;simpa using this⟩
  rw[nY (da.1 ha).2 (da.1 hb).2 hs]
def qE(x:Pt):List Pt->List Pt
 | []=>[x]
 | y::l=>if y.2<x.2 then y::qE x l else x::y::l
def cV:List Pt->List Pt
 | []=>[]
 | x::l=>qE x (cV l)
theorem wg(x y:Pt):∀ l,y∈qE x l↔y=x\/y∈l
 | []=>by simp[qE]
 | z::l=>by
  unfold qE;split
  ·rw[mem_cons,wg x y l,mem_cons];constructor
   ·rintro(h | h | h)
    ·exact .inr (.inl h)
    ·exact .inl h
    ·exact .inr (.inr h)
   ·rintro(h | h | h)
    ·exact .inr (.inl h)
    ·exact .inl h
    ·exact .inr (.inr h)
  ·simp
theorem vZ(x:Pt):∀ l,Stb (x::l) (qE x l)
 | []=>Stb.refl _
 | y::l=>by
  unfold qE;split
  ·rename_i h;have h1:Stb (x::y::l) (y::x::l):=by have:=(Stb.swap (X:=[x]) (Y:=[y]) (by intro a ha b hb;simp at ha hb;subst ha;subst hb;omega)).append (Stb.refl l);simpa using this
   have h2:Stb (y::x::l) (y::qE x l):=by have:=(Stb.refl [y]).append (vZ x l);simpa using this
   exact h1.trans h2
  ·exact Stb.refl _
theorem we(x:Pt):∀ l,Srt l->Srt (qE x l)
 | [],_=>zF x
 | y::l,h=>by
  have hc:=da.1 h;unfold qE;split
  ·rename_i hlt;refine da.2 ⟨fun z hz=>?_,we x l hc.2⟩;rcases(wg x z l).1 hz with rfl | hz
   ·omega
   ·exact hc.1 z hz
  ·rename_i hlt;refine da.2 ⟨fun z hz=>?_,h⟩;rcases List.mem_cons.1 hz with rfl | hz
   ·omega
   ·have:=hc.1 z hz;omega
theorem cJ:∀ l,Stb l (cV l)
 | []=>Stb.refl _
 | x::l=>by have:=(Stb.refl [x]).append (cJ l);exact Stb.trans (by simpa using this) (vZ x _)
theorem ry:∀ l,Srt (cV l)
 | []=>Srt.nil
 | x::l=>we x _ (ry l)
theorem Hw{l l':List Pt}(h:Stb l l')(hs:Srt l'):l'=cV l :=
 (nY (ry l) hs ⟨h.perm.trans (cJ l).perm.symm,fun k=>(h.fil k).trans ((cJ l).fil k).symm⟩).symm
theorem et(X:List Pt)(y:Pt)(Z:List Pt)(j:Nat)(h:X.length=j):(X++y::Z)[j]?.getD z2=y:=by subst h;simp
theorem pI(X:List Pt)(x y:Pt)(Z:List Pt)(j:Nat)(h:X.length=j):(X++x::y::Z)[j+1]?.getD z2=y:=by subst h;simp
theorem zE(X:List Pt)(p x:Pt)(Z:List Pt)(j:Nat)(h:X.length=j):((X++p::x::Z).set (j+1) p).set j x=X++x::p::Z:=by subst h;simp
theorem swap_nb'(X:List Pt)(p x:Pt)(Z:List Pt)(j:Nat)(h:X.length=j):((X++p::x::Z).set j x).set (j+1) p=X++x::p::Z:=by subst h;simp
theorem vY{P Q:List Pt}{x:Pt}(hs:Srt (P++Q))(hq:∀ q∈Q,x.2<q.2)(hp:∀ p∈P,p.2<=x.2):Srt (P++x::Q)/\Stb (P++Q++[x]) (P++x::Q):=by
 have h:=aT.1 hs;refine⟨aT.2 ⟨h.1,da.2 ⟨fun y hy=>by have:=hq y hy;omega,h.2.1⟩,fun a ha y hy=>?_⟩,?_⟩
 ·rcases List.mem_cons.1 hy with rfl | hy
  ·exact hp a ha
  ·exact h.2.2 a ha y hy
 ·have:=(Stb.refl P).append (Stb.swap (X:=Q) (Y:=[x]) (fun a ha b hb=>by simp at hb;subst hb;have:=hq a ha;omega));simpa using this
theorem EP{P:List Pt}{p:Pt}(h:Srt (P++[p])){c:Int}(hc:p.2<=c):∀ a∈P++[p],a.2<=c:=by
 intro a ha;rcases List.mem_append.1 ha with h1 | h1
 ·have:=(aT.1 h).2.2 a h1 p (by simp);omega
 ·simp at h1;subst h1;exact hc
end N
end Go.Proofs.YtmkompnhefhngaaGreatDoor
