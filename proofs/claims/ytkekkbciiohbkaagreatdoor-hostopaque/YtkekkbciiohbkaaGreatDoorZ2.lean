/- Texts one behind the other: UD UC UV UT UE UR UG EA. -/
import Derived.Test.YtkekkbciiohbkaaGreatDoorZ1
import Derived.Laws.IdiomStrings
import Derived.Laws.OwnMore
import Derived.Deep.QuietTactic
import Derived.BigQuiet
import Derived.Laws.AppendOwnNone
import Derived.Laws.Concat
set_option maxRecDepth 100000
set_option maxHeartbeats 16000000
set_option linter.unusedVariables false
set_option linter.unnecessarySimpa false
namespace Go.Proofs.YtkekkbciiohbkaaGreatDoor.U
open Go.RowKit Go.Shelf
attribute [local go_sem] Oper.semAt_some
def dec(l:List Int):List Int:=(scl l).map fun x=>x.1.1
def fc(l:List Sc):List Int:=l.map fun x=>x.1.1
theorem ov(l:List Sc)(x:Sc):fc (l++[x])=fc l++[x.1.1]:=by simp[fc]
theorem rH(l:List Sc):(fc l).length=l.length:=by simp[fc]
theorem Tryz.iX:(Tryz.prog.info? 21).map (fun i=>(i.zero,i.size,i.bytes))=some (some (.int .i32 0),1,4):=by kernel_rfl
theorem mS(s:ByteArray)(hs:s.size≤1099511627776)(w:World):
  Calls Tryz.prog 154 #[.string s] w fun e W'=>∃ v,e=.returned v∧W'.ownsRow w.heap.size 21 1 v (dec (bn s)).length ((dec (bn s)).map (Value.int .i32))∧Below w.heap.size w W':=by
 refine(callsIn_wide (n:=3)).1 ?_;obtain⟨i0,hi,hz0,hz1,hz2⟩:=info_parts Tryz.iX;refine callsIn_of_wp_marks Tryz.func154 rfl trivial ?_ rfl;simp only[Tryz.ntmps154,List.size_toArray,List.length_cons,List.length_nil,Nat.reduceAdd,Nat.reduceSub,Array.replicate_succ,Array.replicate_zero,List.push_toArray,List.append_toArray,List.nil_append,List.cons_append]
 gi_wp2_with fail
 refine⟨trivial,?_⟩;refine(lS _ s _).mono ?_;rintro e w' ⟨rfl,rfl⟩
 gi_wp2_with fail
 have bO:=Boxed.new w 58 (.slice none 0 0);have bN:=Boxed.new (w.alloc (.cells #[.slice none 0 0] 58)) 9 (.string s);rw[World.size_alloc]at bN;have hB0:Below w.heap.size w ((w.alloc (.cells #[.slice none 0 0] 58)).alloc (.cells #[.string s] 9)):=((Below.refl _ w).alloc (Nat.le_refl _) _).alloc (by simp) _
 refine wpIn_rangeFunc_ownG rfl (by omega) (gf:=180) (lb:=#[.pointer (some ⟨w.heap.size+1,0,none⟩)]) rfl trivial (enters_of Tryz.func180 (by kernel_rfl) rfl)
  (my 2 (by omega) (w.heap.size+1) s (by omega) _ bN) mv (mw (by simp)) (Below.refl _ _) (fun _=>rfl)
  (fun pre W=>((∃ v,Boxed W w.heap.size 58 v∧W.ownsRow w.heap.size 21 1 v (fc pre).length ((fc pre).map (Value.int .i32))∧True)∧Boxed W (w.heap.size+1) 9 (.string s))∧Below w.heap.size w W)
  (fun _ _ _=>False)
  (OwnFrom.and (OwnFrom.and (Own.from (holdsRow_own w.heap.size w.heap.size 58 21 1 (fun pre=>(fc pre).length) (fun pre=>(fc pre).map (Value.int .i32)) (fun pre v=>True)) _) (Own.from (boxed_own _ _ _) _)) (ownFrom_below (Nat.le_refl _) (by simp;omega)))
  (fun _ _ _ _ _ hs _ _=>hs)
  ⟨⟨⟨_,bO.alloc _,World.ownsRow_nil _ _ _ _,trivial⟩,bN⟩,hB0⟩
  (fun x=>{ tmps:=#[.string s,undef,.slice none 0 0,.pointer (some ⟨w.heap.size,0,none⟩),.int .i32 x.1.1,.string s,.func (.func 180) #[] #[.pointer (some ⟨w.heap.size+1,0,none⟩)],.int .i32 x.1.1,.bool x.1.2,undef,undef,undef,undef,undef],defers:=[] }) ?assign ?body ?done ?stop
 case assign =>
  intro l x W K hK
  gi_wp2
  exact hK
 case body =>
  rintro l pre x W ⟨⟨⟨v,hv,hrow,_⟩,hbs⟩,hB⟩ hlt
  have hc:=hv.cell;have hpl:(fc pre).length≤pre.length:=Nat.le_of_eq (rH pre)
  gi_wp2_with (gi_at_builtin;refine wpListIn_append_own _ rfl _ _ 58 rfl w.heap.size 21 i0 (.int .i32 0) 1 4 Tryz.underlying58 hi hz0 hz1 hz2 rfl (by decide) _ _ _ rfl (hrow.alloc _) ⟨W.heap.size,0,none⟩ 1 1 [.int .i32 x.1.1] rfl rfl (cell_one_new _ _ _) (by simp[Value.oneCell']) (by unfold maxLen;omega) (by omega) (by have:=hB.size;simp;omega) ?_;intro v' w1 hown' hgrow _;obtain⟨g',cap',rfl⟩:=ownsRow_succ hown';obtain⟨hv1,hv2,hr2,hk2,hb2⟩:=hv.appended (by decide) hrow hB.size (Nat.le_refl _) hown' hgrow;have hc1:=hv1.cell;have hf1:=hv1.frozen)
  have hbs1:=((hbs.alloc _).kept hgrow (hbs.not_row (by decide) hrow)).other (B':=w.heap.size) (by omega) (.slice (some ⟨g',0,none⟩) ((fc pre).length+1) cap');exact⟨hk2.from _,fun _=>hbs1,⟨⟨_,hv2,by rw[ov];simpa using hr2,trivial⟩,hbs1⟩,hB.trans hb2⟩
 case done =>
  rintro D ys W hD rfl ⟨⟨⟨v,hv,hrow,_⟩,hbs⟩,hB⟩ hK
  have hc:=hv.cell
  gi_wp2
  refine⟨by simp,.inl ⟨_,_,rfl,run_takeDeferred hK,?_⟩⟩;exact⟨_,results_tmp rfl _ _ _,v,rfl,ownsRow_putObj hrow _ hK rfl,hB.trans (belowK_b (w:=w) (Nat.le_refl _) W D _ _ (by simp at hD;omega) hK rfl rfl)⟩
 case stop =>
  rintro D c pre W _ _ h _
  exact h.elim
attribute [local go_sem] Oper.semAt_some
def aL(l:List Int):List Int:=l.flatMap enc
theorem ke(l:List Int)(x:Int):aL (l++[x])=aL l++enc x:=by simp[aL]
theorem jF(l:List Int):(aL l).length≤4 * l.length:=by
 induction l with
 | nil=>simp[aL]
 | cons a t ih =>
  have:=fX a;simp only[aL,List.flatMap_cons,List.length_append,List.length_cons]at *;omega
theorem dX(c:Int)(h0:0≤c)(h1:c≤1114111):Bytes (enc c):=by
 intro b hb
 unfold enc at hb
 by_cases q1:c<128
 ·rw[if_pos q1]at hb;simp at hb;omega
 ·rw[if_neg q1]at hb
  by_cases q2:c<2048
  ·rw[if_pos q2]at hb;simp at hb;omega
  ·rw[if_neg q2]at hb
   by_cases q3:c<65536
   ·rw[if_pos q3]at hb;simp at hb;omega
   ·rw[if_neg q3]at hb;simp at hb;omega
theorem i6(l:List Int)(h:∀ c∈l,0≤c∧c≤1114111):Bytes (aL l):=by
 intro b hb
 obtain⟨c,hc,hbc⟩:=List.mem_flatMap.1 hb;exact dX c (h c hc).1 (h c hc).2 b hbc
theorem Df(l:List Sc):∀ c∈fc l,0≤c∧c≤1114111:=by
 intro c hc
 obtain⟨x,_,rfl⟩:=List.mem_map.1 hc;exact x.2
theorem du(ns:List Int)(h:Bytes ns):(ns.map fun n=>UInt8.ofNat n.toNat).map (fun c=>(c.toNat:Int))=ns:=by
 rw[List.map_map]
 conv=>rhs;rw[←List.map_id ns]
 apply List.map_congr_left;intro a ha
 have:=h a ha;simp only[Function.comp,id,UInt8.toNat_ofNat'];omega
theorem dZ(g j:Nat):((⟨g,0,none⟩:Addr).add j)=⟨g,j,none⟩:=by
 simp[Addr.add];exact fun h=>h.symm
theorem aO(w:World)(base:Nat)(v:Value)(n:Nat)(ns:List Int)(hn:n=ns.length)(hb:Bytes ns)(hrow:w.ownsRow base 5 1 v n (ns.map (Value.int .u8))):
  ∃ t:ByteArray,(convert 36 9 v).run Tryz.prog w=.ok (.string t) w∧bn t=ns:=by
 subst hn;rcases id hrow.2 with⟨rfl,h0⟩ | ⟨g,cap,cur,rfl,_⟩
 ·refine⟨⟨#[]⟩,?_,?_⟩
  ·rw[run_convert_bytes_string w 36 9 5 none 0 0 Tryz.underlying36 Tryz.underlying5 Tryz.underlying9]
   simp[Conv.bytesToString];rfl
  ·rw[List.length_eq_zero_iff.1 h0];rfl
 ·refine⟨⟨(ns.map fun n=>UInt8.ofNat n.toNat).toArray⟩,?_,?_⟩
  ·have:=run_convert_bytes_back (P:=Tryz.prog) w 36 9 5 ⟨g,0,none⟩ cap (ns.map fun n=>UInt8.ofNat n.toNat) Tryz.underlying36 Tryz.underlying5 Tryz.underlying9 (by
     intro j hj
     rw[dZ,hrow.cellAt j (by simpa using hj)]
     have hj':j<ns.length:=by simpa using hj
     have hbj:=hb ns[j] (List.getElem_mem hj')
     rw[List.getElem?_map,List.getElem?_eq_getElem hj']
     simp only[Option.map_some,List.getElem_map,UInt8.toNat_ofNat']
     congr 2
     omega)
   rw[List.length_map]at this;exact this
  ·unfold bn
   simp only;exact du ns hb
theorem gj{W w1:World}{n₀ B:Nat}{t e:TypeId}{size:Nat}{v v':Value}{k m:Nat}{xs ys:List Value}
  (hv:Boxed W B t v) (hte:t≠e) (hrow:W.ownsRow n₀ e size v k xs) (hn₀:n₀≤W.heap.size) (hB:n₀≤B)
  (hown':w1.ownsRow n₀ e size v' m ys) (hgrow:W.grownBy w1 v.ownBlock) :
  Boxed w1 B t v∧Boxed (w1.setCell ⟨B,0,none⟩ v') B t v'∧(w1.setCell ⟨B,0,none⟩ v').ownsRow n₀ e size v' m ys∧KeepsOthers W (w1.setCell ⟨B,0,none⟩ v')∧Below n₀ W (w1.setCell ⟨B,0,none⟩ v'):=by
 have hv1:Boxed w1 B t v:=hv.kept hgrow (hv.not_row hte hrow);refine⟨hv1,hv1.set v',hown'.kept (grownBy_setCell' w1 B v') (.inr (hv1.not_row hte hown').symm),?_,?_⟩
 ·refine(KeepsOthers.of_grownBy hgrow fun j o ej hj=>?_).trans (KeepsOthers.setCell _ _ _)
  rcases hrow.2 with⟨rfl,_⟩ | ⟨g,cap,cur,rfl,_,hgb,_⟩
  ·simp[Value.ownBlock]at ej
  ·obtain rfl:g=j:=by simpa[Value.ownBlock]using ej
   rw[hgb]at hj;cases hj;rfl
 ·refine((Below.refl n₀ W).grown hgrow hn₀ fun j ej=>?_).setCell (p:=⟨B,0,none⟩) hB v'
  rcases hrow.2 with⟨rfl,_⟩ | ⟨g,cap,cur,rfl,hb,_,_⟩
  ·simp[Value.ownBlock]at ej
  ·obtain rfl:g=j:=by simpa[Value.ownBlock]using ej
   exact hb
attribute [local go_sem] Oper.semAt_some
def val(l:List Int):Bool:=(scl l).all fun x=>x.1.2
open Go.RowKit
theorem gJ(c:Int):128≤aP c:=by unfold aP;(repeat' split) <;> omega
theorem fR(c:Int):aG c≤191:=by unfold aG;(repeat' split) <;> omega
theorem kv(a:Int)(t:List Int)(h:a<128):nx (a::t)=(a,1,true):=by rw[nx,if_pos h]
theorem uy(a b:Int)(t:List Int)(h1:194≤a)(h2:a≤223)(h3:128≤b)(h4:b≤191):nx (a::b::t)=((a - 192) * 64+(b - 128),2,true):=by
 have hf:follow a=1:=by unfold follow;rw[if_neg (by omega),if_neg (by omega),if_pos ⟨h1,h2⟩]
 have hl1:aP a=128:=by unfold aP;rw[if_neg (by omega),if_neg (by omega)]
 have hh1:aG a=191:=by unfold aG;rw[if_neg (by omega),if_neg (by omega)]
 have e:nx (a::b::t)=nxl 1 (b::t) 1 (a % 32) 128 191:=by rw[nx,if_neg (by omega),hf,hl1,hh1];rfl
 rw[e,nxl,if_neg (by omega),nxl];refine Prod.ext ?_ rfl;simp only;omega
theorem Hu(a:Int)(h1:194≤a)(h2:a≤223):nx [a]=(65533,1,false):=by
 have hf:follow a=1:=by unfold follow;rw[if_neg (by omega),if_neg (by omega),if_pos ⟨h1,h2⟩]
 rw[nx,if_neg (by omega),hf];rfl
theorem uz(a:Int)(t:List Int)(h1:224≤a)(h2:a≤239):nx (a::t)=nxl 2 t 1 (a % 16) (aP a) (aG a):=by
 have hf:follow a=2:=by unfold follow;rw[if_neg (by omega),if_pos ⟨h1,h2⟩]
 rw[nx,if_neg (by omega),hf];rfl
theorem ux(a b c:Int)(t:List Int)(h1:224≤a)(h2:a≤239)(h3:aP a≤b)(h4:b≤aG a)(h5:128≤c)(h6:c≤191):
  nx (a::b::c::t)=((a - 224) * 4096+(b - 128) * 64+(c - 128),3,true):=by
 have q1:=gJ a;have q2:=fR a;rw[uz a _ h1 h2,nxl,if_neg (by omega),nxl,if_neg (by omega),nxl];refine Prod.ext ?_ rfl;simp only;omega
theorem qU(a:Int)(t:List Int)(h1:240≤a)(h2:a≤244):nx (a::t)=nxl 3 t 1 (a % 8) (aP a) (aG a):=by
 have hf:follow a=3:=by unfold follow;rw[if_pos ⟨h1,h2⟩]
 rw[nx,if_neg (by omega),hf];rfl
theorem uw(a b c d:Int)(t:List Int)(h1:240≤a)(h2:a≤244)(h3:aP a≤b)(h4:b≤aG a)(h5:128≤c)(h6:c≤191)(h7:128≤d)(h8:d≤191):
  nx (a::b::c::d::t)=((a - 240) * 262144+(b - 128) * 4096+(c - 128) * 64+(d - 128),4,true):=by
 have q1:=gJ a;have q2:=fR a;rw[qU a _ h1 h2,nxl,if_neg (by omega),nxl,if_neg (by omega),nxl,if_neg (by omega),nxl];refine Prod.ext ?_ rfl;simp only;omega
theorem mg(l:List Int)(h:l≠[])(hl:Bytes l)(hw:(nx l).2.2=true):
  (∀ r,nx (l++r)=nx l)∧enc (nx l).1=l.take (nx l).2.1∧(∀ n,(nx l).2.1≤n→nx (l.take n)=nx l)∧(∀ n,0<n→n<(nx l).2.1→nx (l.take n)=(65533,n,false)):=by
 rcases mh l h hl with⟨a,t,rfl,h0,h1,e⟩ | ⟨a,b,t,rfl,h1,h2,h3,h4,e⟩ | ⟨a,b,c,t,rfl,h1,h2,h3,h4,h5,h6,e⟩ | ⟨a,b,c,d,t,rfl,h1,h2,h3,h4,h5,h6,h7,h8,e⟩ | ⟨n,_,_,e⟩
 ·rw[e]
  refine⟨fun r=>kv a _ h1,?_,?_,?_⟩
  ·simp only;unfold enc;rw[if_pos h1];rfl
  ·intro n hn
   obtain⟨m,rfl⟩:∃ m,n=m+1:=⟨n - 1,by simp only at hn;omega⟩;exact kv a _ h1
  ·intro n h0 hn;simp only at hn;omega
 ·rw[e]
  refine⟨fun r=>uy a b _ h1 h2 h3 h4,?_,?_,?_⟩
  ·simp only;unfold enc;rw[if_neg (by omega),if_pos (by omega)]
   have e1:192+((a - 192) * 64+(b - 128)) / 64=a:=by omega
   have e2:128+((a - 192) * 64+(b - 128)) % 64=b:=by omega
   rw[e1,e2];rfl
  ·intro n hn
   obtain⟨m,rfl⟩:∃ m,n=m+2:=⟨n - 2,by simp only at hn;omega⟩;exact uy a b _ h1 h2 h3 h4
  ·intro n h0 hn
   obtain rfl:n=1:=by simp only at hn;omega
   exact Hu a h1 h2
 ·have q1:=gJ a
  have q2:=fR a;rw[e];refine⟨fun r=>ux a b c _ h1 h2 h3 h4 h5 h6,?_,?_,?_⟩
  ·have hlo:a=224→160≤b:=fun ha=>by subst ha;exact h3
   simp only;unfold enc;rw[if_neg (by omega),if_neg (by omega),if_pos (by omega)];have e1:224+((a - 224) * 4096+(b - 128) * 64+(c - 128)) / 4096=a:=by omega
   have e2:128+((a - 224) * 4096+(b - 128) * 64+(c - 128)) / 64 % 64=b:=by omega
   have e3:128+((a - 224) * 4096+(b - 128) * 64+(c - 128)) % 64=c:=by omega
   rw[e1,e2,e3];rfl
  ·intro n hn
   obtain⟨m,rfl⟩:∃ m,n=m+3:=⟨n - 3,by simp only at hn;omega⟩;exact ux a b c _ h1 h2 h3 h4 h5 h6
  ·intro n h0 hn
   have:n=1∨n=2:=by simp only at hn;omega
   rcases this with rfl | rfl
   ·show nx [a]=_
    rw[uz a _ h1 h2];rfl
   ·show nx [a,b]=_
    rw[uz a _ h1 h2,nxl,if_neg (by omega)];rfl
 ·have q1:=gJ a
  have q2:=fR a;rw[e];refine⟨fun r=>uw a b c d _ h1 h2 h3 h4 h5 h6 h7 h8,?_,?_,?_⟩
  ·have hlo:a=240→144≤b:=fun ha=>by subst ha;exact h3
   simp only;unfold enc;rw[if_neg (by omega),if_neg (by omega),if_neg (by omega)];have e1:240+((a - 240) * 262144+(b - 128) * 4096+(c - 128) * 64+(d - 128)) / 262144=a:=by omega
   have e2:128+((a - 240) * 262144+(b - 128) * 4096+(c - 128) * 64+(d - 128)) / 4096 % 64=b:=by omega
   have e3:128+((a - 240) * 262144+(b - 128) * 4096+(c - 128) * 64+(d - 128)) / 64 % 64=c:=by omega
   have e4:128+((a - 240) * 262144+(b - 128) * 4096+(c - 128) * 64+(d - 128)) % 64=d:=by omega
   rw[e1,e2,e3,e4];rfl
  ·intro n hn
   obtain⟨m,rfl⟩:∃ m,n=m+4:=⟨n - 4,by simp only at hn;omega⟩;exact uw a b c d _ h1 h2 h3 h4 h5 h6 h7 h8
  ·intro n h0 hn
   have:n=1∨n=2∨n=3:=by simp only at hn;omega
   rcases this with rfl | rfl | rfl
   ·show nx [a]=_
    rw[qU a _ h1 h2];rfl
   ·show nx [a,b]=_
    rw[qU a _ h1 h2,nxl,if_neg (by omega)];rfl
   ·show nx [a,b,c]=_
    rw[qU a _ h1 h2,nxl,if_neg (by omega),nxl,if_neg (by omega)];rfl
 ·rw[e]at hw;simp at hw
theorem pv(c:Int)(h:az c=true)(t:List Int):nx (enc c++t)=(c,(enc c).length,true):=by
 unfold az at h
 rw[decide_eq_true_eq]at h;unfold enc;by_cases q1:c<128
 ·rw[if_pos q1];exact kv c t q1
 ·rw[if_neg q1]
  by_cases q2:c<2048
  ·rw[if_pos q2]
   show nx ((192+c / 64)::(128+c % 64)::t)=(c,2,true)
   rw[uy _ _ _ (by omega) (by omega) (by omega) (by omega)];refine Prod.ext ?_ rfl;simp only;omega
  ·rw[if_neg q2]
   by_cases q3:c<65536
   ·rw[if_pos q3]
    show nx ((224+c / 4096)::(128+c / 64 % 64)::(128+c % 64)::t)=(c,3,true)
    rw[ux _ _ _ _ (by omega) (by omega) ?_ ?_ (by omega) (by omega)]
    ·refine Prod.ext ?_ rfl
     simp only;omega
    ·unfold aP
     by_cases g:224+c / 4096=224
     ·rw[if_pos g];omega
     ·rw[if_neg g,if_neg (by omega)];omega
    ·unfold aG
     by_cases g:224+c / 4096=237
     ·rw[if_pos g];omega
     ·rw[if_neg g,if_neg (by omega)];omega
   ·rw[if_neg q3]
    show nx ((240+c / 262144)::(128+c / 4096 % 64)::(128+c / 64 % 64)::(128+c % 64)::t)=(c,4,true)
    rw[uw _ _ _ _ _ (by omega) (by omega) ?_ ?_ (by omega) (by omega) (by omega) (by omega)]
    ·refine Prod.ext ?_ rfl
     simp only;omega
    ·unfold aP
     by_cases g:240+c / 262144=240
     ·rw[if_neg (by omega),if_pos g];omega
     ·rw[if_neg (by omega),if_neg g];omega
    ·unfold aG
     by_cases g:240+c / 262144=244
     ·rw[if_neg (by omega),if_pos g];omega
     ·rw[if_neg (by omega),if_neg g];omega
theorem bg(l:List Int)(h:l≠[])(hl:Bytes l):dec l=(nx l).1::dec (l.drop (nx l).2.1):=by
 unfold dec;rw[lR l h,List.map_cons,oS l hl]
theorem jd(l:List Int)(h:l≠[])(hl:Bytes l):val l=((nx l).2.2&&val (l.drop (nx l).2.1)):=by
 unfold val;rw[lR l h,List.all_cons,oS l hl]
theorem ix:dec []=[]:=rfl
theorem gT:∀(n:Nat) (l:List Int),l.length≤n→Bytes l→(dec l).all az=true
 | 0,l,h,_=>by obtain rfl:=List.length_eq_zero_iff.1 (show l.length=0 by omega);rfl
 | n+1,l,h,hl=>by
  by_cases hne:l=[]
  ·subst hne;rfl
  ·have hn:=j7 l hne
   rw[bg l hne hl,List.all_cons,pq l hne hl,gT n _ (by rw[List.length_drop];omega) (hl.drop _)];rfl
theorem fZ:∀(n:Nat) (l:List Int),l.length≤n→Bytes l→(dec l).length≤l.length
 | 0,l,h,_=>by obtain rfl:=List.length_eq_zero_iff.1 (show l.length=0 by omega);exact Nat.le_refl _
 | n+1,l,h,hl=>by
  by_cases hne:l=[]
  ·subst hne;exact Nat.le_refl _
  ·have hn:=j7 l hne
   have:=fZ n (l.drop (nx l).2.1) (by rw[List.length_drop];omega) (hl.drop _);rw[List.length_drop]at this;rw[bg l hne hl,List.length_cons];omega
theorem cut:∀(k:Nat) (l:List Int) (n:Nat),l.length≤k→Bytes l→val l=true →
  (dec (l.take n)).length≤(dec l).length∧∀ i,i<(dec (l.take n)).length→(dec (l.take n))[i]?.getD 0=(dec l)[i]?.getD 0∨(i+1=(dec (l.take n)).length∧(dec (l.take n))[i]?.getD 0=65533∧val (l.take n)=false)
 | 0,l,n,h,_,_=>by
  obtain rfl:=List.length_eq_zero_iff.1 (show l.length=0 by omega);rw[List.take_nil];exact⟨Nat.le_refl _,fun i hi=>.inl rfl⟩
 | k+1,l,n,h,hl,hv=>by
  by_cases hne:l=[]
  ·subst hne;rw[List.take_nil];exact⟨Nat.le_refl _,fun i hi=>.inl rfl⟩
  by_cases h0:n=0
  ·subst h0
   rw[List.take_zero,ix];exact⟨by simp,fun i hi=>by simp at hi⟩
  ·have hn:=j7 l hne
   rw[jd l hne hl,Bool.and_eq_true]at hv;obtain⟨_,_,w3,w4⟩:=mg l hne hl hv.1;have htne:l.take n≠[]:=fun hh=>by have:=congrArg List.length hh;rw[List.length_take,List.length_nil]at this;omega
   by_cases hlt:(nx l).2.1≤n
   ·have e:=w3 n hlt
    have ih:=cut k (l.drop (nx l).2.1) (n - (nx l).2.1) (by rw[List.length_drop];omega) (hl.drop _) hv.2;have ed:(l.take n).drop (nx l).2.1=(l.drop (nx l).2.1).take (n - (nx l).2.1):=List.drop_take;rw[bg _ htne (hl.take n),bg l hne hl,jd _ htne (hl.take n),e,ed,hv.1];refine⟨by simp only[List.length_cons];omega,fun i hi=>?_⟩
    match i with
    | 0=>exact .inl rfl
    | i+1 =>
     simp only[List.length_cons]at hi;rcases ih.2 i (by omega) with q | ⟨q1,q2,q3⟩
     ·exact .inl (by simpa using q)
     ·exact .inr ⟨by simp only[List.length_cons];omega,by simpa using q2,by rw[q3];rfl⟩
   ·have e:=w4 n (by omega) (by omega)
    have ed:(l.take n).drop n=[]:=by rw[List.drop_eq_nil_iff,List.length_take];omega
    rw[bg _ htne (hl.take n),bg l hne hl,jd _ htne (hl.take n),e];simp only[ed,ix];refine⟨by simp,fun i hi=>.inr ⟨?_,?_,rfl⟩⟩
    ·simp at hi;simp;omega
    ·simp at hi;subst hi;rfl
def au(w:World)(v:Value)(zs:List Int):Prop :=
 (zs=[]∧∃ a cap,v=.slice a 0 cap)∨(0<zs.length∧∃ b off cap,v=.slice (some ⟨b,off,none⟩) zs.length cap∧∀ j,j<zs.length→w.cell? ⟨b,off+j,none⟩=some (.int .i32 (zs[j]?.getD 0)))
theorem lt_of_cell{w:World}{a:Addr}{v:Value}(h:w.cell? a=some v):a.block<w.heap.size:=by
 by_cases hb:a.block<w.heap.size
 ·exact hb
 ·simp[World.cell?,Array.getElem?_eq_none (Nat.le_of_not_lt hb)]at h
theorem au.below{A B:World}{n:Nat}(h:Below n A B)(hn:A.heap.size≤n){v:Value}{zs:List Int}:au A v zs→au B v zs
 | .inl e=>.inl e
 | .inr ⟨hp,b,off,cap,e,hc⟩=>.inr ⟨hp,b,off,cap,e,fun j hj=>(h.cell (p:=⟨b,off+j,none⟩) (Nat.lt_of_lt_of_le (lt_of_cell (hc j hj)) hn)).trans (hc j hj)⟩
theorem au.own{w:World}{base:Nat}{v:Value}{n:Nat}{zs:List Int}(hn:n=zs.length)(h:w.ownsRow base 21 1 v n (zs.map (Value.int .i32))):au w v zs:=by
 subst hn;rcases id h.2 with⟨rfl,h0⟩ | ⟨g,cap,cur,rfl,_⟩
 ·exact .inl ⟨List.length_eq_zero_iff.1 h0,_,_,rfl⟩
 ·by_cases hz:zs.length=0
  ·exact .inl ⟨List.length_eq_zero_iff.1 hz,_,_,by rw[hz]⟩
  ·refine .inr ⟨by omega,g,0,cap,rfl,fun j hj=>?_⟩
   rw[Nat.zero_add,h.cellAt j (by omega),List.getElem?_map,List.getElem?_eq_getElem hj];rfl
theorem eV(zs:List Int)(k:Nat)(h:k<zs.length):zs.take (k+1)=zs.take k++[zs[k]?.getD 0]:=by
 rw[List.take_succ_eq_append_getElem h,List.getElem?_eq_getElem h];rfl
theorem mO(zs:List Int)(k:Nat)(h:k<zs.length):aL (zs.take (k+1))=aL (zs.take k)++enc (zs[k]?.getD 0):=by
 rw[eV zs k h,ke]
theorem nI(zs:List Int)(k:Nat)(h:k<zs.length)(ha:(zs.take k).all az=true)(hs:az (zs[k]?.getD 0)=true):(zs.take (k+1)).all az=true:=by
 rw[eV zs k h,List.all_append,ha];simp[hs]
theorem all_false(zs:List Int)(k:Nat)(h:k<zs.length)(hs:az (zs[k]?.getD 0)=false):zs.all az=false:=by
 rw[←List.take_append_drop (k+1) zs,eV zs k h,List.all_append,List.all_append];simp[hs]
theorem bu{c:Int}(h:az c=true):0≤c∧c≤1114111:=by
 unfold az at h;rw[decide_eq_true_eq]at h;omega
theorem AY{zs:List Int}(h:zs.all az=true):∀ c∈zs,0≤c∧c≤1114111:=fun c hc=>bu (List.all_eq_true.1 h c hc)
def Aj(zs:List Int)(t:ByteArray)(e:Int):Prop:=(zs.all az=true∧e=0∧bn t=aL zs)∨(zs.all az=false∧e=2∧t=⟨#[]⟩)
theorem rR(b off cap:Nat)(zs:List Int)(hlen:zs.length≤17179869184)(w:World)(hp:0<zs.length)(hc:∀ j,j<zs.length→w.cell? ⟨b,off+j,none⟩=some (.int .i32 (zs[j]?.getD 0))):
  Calls Tryz.prog 151 #[.slice (some ⟨b,off,none⟩) zs.length cap] w fun e W'=>(∃ t r,e=.returned (.tuple #[.string t,.int .i64 r])∧Aj zs t r)∧Below w.heap.size w W':=by
 have hb:b<w.heap.size:=lt_of_cell (hc 0 hp);go_enter Tryz.func151,Tryz.ntmps151
 go_wp2_with fail
 go_loopw [4,9] (fun v i wr=>∃ k:Nat,k≤zs.length∧i=.int .i64 k∧(zs.take k).all az=true∧wr.ownsRow w.heap.size 5 1 v (aL (zs.take k)).length ((aL (zs.take k)).map (Value.int .u8))∧Below w.heap.size w wr)
  (fun _ i _=>zs.length - (intOf i).toNat)
 case atStart=>exact⟨0,Nat.zero_le _,rfl,by simp,World.ownsRow_nil _ _ _ _,Below.refl _ _⟩
 case round =>
  obtain⟨k,hk,rfl,hall,hrow,hB⟩:=hrel;by_cases hlt:k<zs.length
  ·have hck:wr.cell? ⟨b,off+k,none⟩=some (.int .i32 (zs[k]?.getD 0)):=(hB.cell (p:=⟨b,off+k,none⟩) hb).trans (hc k hlt)
   have hel:=jF (zs.take k);have htl:(zs.take k).length≤k:=List.length_take_le _ _;have H1:Hid ((zs.take k).all az=true):=hall;have H2:Hid (aL (zs.take (k+1))=aL (zs.take k)++enc (zs[k]?.getD 0)):=mO zs k hlt;clear hall;obtain⟨c,hcc⟩:∃ c,c=zs[k]?.getD 0:=⟨_,rfl⟩;rw[←hcc]at hck;have HC:Hid (c=zs[k]?.getD 0):=hcc;clear hcc;cases hsc:az c with
   | true =>
    have HS:Hid (az c=true):=hsc;clear hsc;have hbd:=bu HS.out
    go_wp2_with fail;refine(jA _ _).mono ?_;rw[HS.out];rintro e w' ⟨rfl,rfl⟩
    go_wp2_with fail;refine(ng w.heap.size _ _ _ _ hbd.1 hbd.2 _ hB.size (by omega) hrow).mono ?_;rintro e w1 ⟨v',rfl,hown',hgrow⟩
    have R:Hid (w1.ownsRow w.heap.size 5 1 v' (aL (zs.take (k+1))).length ((aL (zs.take (k+1))).map (Value.int .u8))):=by
     show w1.ownsRow _ _ _ _ _ _
     rw[H2.out,←HC.out,List.length_append,List.map_append];exact hown'
    have hB1:Below w.heap.size w w1:=hB.grown hgrow hB.size (fun j ej=>by
      rcases hrow.2 with⟨rfl,_⟩ | ⟨g,cap,cur,rfl,hbg,_,_⟩
      · simp[Value.ownBlock]at ej
      · obtain rfl:g=j:=by simpa[Value.ownBlock]using ej
        exact hbg)
    clear hown' hgrow hrow hB hck;go_wp2
    go_roundw
    case rel=>exact⟨k+1,by omega,by go_num,nI zs k hlt H1.out (by rw[←HC.out];exact HS.out),R.out,hB1⟩
    case measure=>simp[intOf];omega
   | false =>
    have HS:Hid (az c=false):=hsc;clear hsc
    go_wp2_with fail;refine(jA _ _).mono ?_;rw[HS.out];rintro e w' ⟨rfl,rfl⟩
    go_wp2
    go_ret2;exact⟨⟨_,_,rfl,.inr ⟨all_false zs k hlt (by rw[←HC.out];exact HS.out),rfl,rfl⟩⟩,hB⟩
  ·have hkk:k=zs.length:=by omega
   rw[hkk,List.take_length]at hall hrow;obtain⟨t,hcv,ht⟩:=aO wr w.heap.size _ _ (aL zs) rfl (i6 _ (AY hall)) hrow;have H1:Hid (zs.all az=true):=hall;have HT:Hid (bn t=aL zs):=ht;clear hall ht hkk;go_wp2
   go_ret2;exact⟨⟨_,_,rfl,.inl ⟨H1.out,rfl,HT.out⟩⟩,hB⟩
theorem rS(a:Option Addr)(cap:Nat)(w:World):
  Calls Tryz.prog 151 #[.slice a 0 cap] w fun e W'=>(∃ t r,e=.returned (.tuple #[.string t,.int .i64 r])∧Aj [] t r)∧Below w.heap.size w W':=by
 obtain⟨t,hcv,ht⟩:=aO w w.heap.size (.slice none 0 0) 0 [] rfl (fun b hb=>by cases hb) (World.ownsRow_nil _ _ _ _);have HT:Hid (bn t=aL []):=ht;clear ht;go_enter Tryz.func151,Tryz.ntmps151
 go_wp2_with fail;refine wp_loop_rounds 1 ?_;rw[rounds_succ];go_wp2
 go_ret2;exact⟨⟨_,_,rfl,.inl ⟨rfl,rfl,HT.out⟩⟩,Below.refl _ _⟩
theorem fW(v:Value)(zs:List Int)(hlen:zs.length≤17179869184)(w:World)(hv:au w v zs):
  Calls Tryz.prog 151 #[v] w fun e W'=>(∃ t r,e=.returned (.tuple #[.string t,.int .i64 r])∧Aj zs t r)∧Below w.heap.size w W':=by
 rcases hv with⟨rfl,a,cap,rfl⟩ | ⟨hp,b,off,cap,rfl,hc⟩
 ·exact rS a cap w
 ·exact rR b off cap zs hlen w hp hc
theorem av{s t:ByteArray}(h:bn s=bn t):s=t:=by
 unfold bn at h
 have h2:s.data.toList=t.data.toList:=by
  have:∀(a b:List UInt8),a.map (fun c=>(c.toNat:Int))=b.map (fun c=>(c.toNat:Int))→a=b:=by
   intro a
   induction a with
   | nil=>intro b hb;cases b with
    | nil=>rfl
    | cons _ _=>simp at hb
   | cons x a ih=>intro b hb;cases b with
    | nil=>simp at hb
    | cons y b =>
     simp only[List.map_cons,List.cons.injEq]at hb;have hxy:x=y:=UInt8.toNat_inj.1 (by have:=hb.1;omega);rw[ih b hb.2,hxy]
  exact this _ _ h
 cases s;cases t
 congr 1
 exact Array.toList_inj.1 h2
theorem below_drewN(B:Nat)(w:World)(n:Nat):Below B w (w.drewN n):=⟨rfl,rfl,rfl,Nat.le_refl _,fun _ _=>rfl⟩
def dV(w:World)(u:Value)(zs:List Int):Prop :=
 (u=.slice none 0 0∧zs=[])∨∃ ad c,u=.slice (some ad) zs.length c∧∀ j,j<zs.length→w.cell? (ad.add j)=some (.int .i32 (zs[j]?.getD 0))
theorem dV.own{w:World}{base:Nat}{v:Value}{n:Nat}{zs:List Int}(hn:n=zs.length)(h:w.ownsRow base 21 1 v n (zs.map (Value.int .i32))):dV w v zs:=by
 subst hn;rcases id h.2 with⟨rfl,h0⟩ | ⟨g,cap,cur,rfl,_⟩
 ·exact .inl ⟨rfl,List.length_eq_zero_iff.1 h0⟩
 ·refine .inr ⟨⟨g,0,none⟩,cap,rfl,fun j hj=>?_⟩
  rw[dZ,h.cellAt j (by omega),List.getElem?_map,List.getElem?_eq_getElem hj];rfl
theorem dV.below{A B:World}{n:Nat}(h:Below n A B)(hn:A.heap.size≤n){v:Value}{zs:List Int}:dV A v zs→dV B v zs
 | .inl e=>.inl e
 | .inr ⟨ad,c,e,hc⟩=>.inr ⟨ad,c,e,fun j hj=>(h.cell (p:=ad.add j) (Nat.lt_of_lt_of_le (lt_of_cell (hc j hj)) hn)).trans (hc j hj)⟩
theorem bF{w:World}{ops:Array Oper}{rest:List Oper}{o:Oper}{a:Act}{Q:Exit→Act→World→Prop}(hgd:o.guard=none)(s x:Operand)
  (ho:o.op=.call { callee:=.builtin .append,args:=#[s,x],argTypes:=#[58,58] }) (base:Nat) (v:Value) (n:Nat) (ys:List Int) (hs:a.eval s=v) (hown:w.ownsRow base 21 1 v n (ys.map (Value.int .i32)))
  (u:Value) (zs:List Int) (hx:a.eval x=u) (hu:dV w u zs) (hbd:n+zs.length≤17179869184) (hbase:base≤w.heap.size)
  (h:∀ v' w',w'.ownsRow base 21 1 v' (n+zs.length) ((ys++zs).map (Value.int .i32))→w.grownBy w' v.ownBlock→wpList Tryz.prog ops Q rest (a.put o.dst v') w'):wpList Tryz.prog ops Q (o::rest) a w:=by
 obtain⟨i0,hi,hz0,hz1,hz2⟩:=info_parts Tryz.iX;rcases hu with⟨rfl,rfl⟩ | ⟨ad,c,rfl,hc⟩
 ·exact wpList_append_own_none hgd s x 58 ho base 21 i0 1 Tryz.underlying58 hi v n _ hs hown hx (h v w (by simpa using hown) ⟨rfl,rfl,rfl,Nat.le_refl _,fun _ _ _=>rfl⟩)
 ·refine wpList_append_own w hgd s x 58 ho base 21 i0 (.int .i32 0) 1 4 Tryz.underlying58 hi hz0 hz1 hz2 rfl (by decide) v n _ hs hown ad zs.length c (zs.map (Value.int .i32)) hx (by simp) ?_ ?_ (by unfold maxLen;omega) (by omega) hbase (fun v' w' h1 h2 _=>h v' w' (by simpa using h1) h2)
  ·intro j y hj
   rw[List.getElem?_map]at hj;obtain⟨c',hc',rfl⟩:=Option.map_eq_some_iff.1 hj;have hj':=(List.getElem?_eq_some_iff.1 hc').1;rw[hc j hj',hc'];rfl
  ·intro y hy
   obtain⟨c',_,rfl⟩:=List.mem_map.1 hy;rfl
theorem below_grow{B:Nat}{w w1 w2:World}{e:TypeId}{size:Nat}{v:Value}{n:Nat}{xs:List Value}(hB:Below B w w1)(hb:B≤w1.heap.size)(hown:w1.ownsRow B e size v n xs)(hg:w1.grownBy w2 v.ownBlock):Below B w w2 :=
 hB.grown hg hb (fun j ej=>by
   rcases hown.2 with⟨rfl,_⟩ | ⟨g,cap,cur,rfl,hbg,_,_⟩
   · simp[Value.ownBlock]at ej
   · obtain rfl:g=j:=by simpa[Value.ownBlock]using ej
     exact hbg)
theorem aC(a b:ByteArray):bn (a++b)=bn a++bn b:=by
 unfold bn;rw[←List.map_append]
 congr 1
theorem ax{base B:Nat}{e:TypeId}{size:Nat}{v:Value}{n:Nat}{xs:List Value}{w w':World}(h:w.ownsRow base e size v n xs)(hb:Below B w w')(hB:w.heap.size≤B):w'.ownsRow base e size v n xs:=by
 rcases h with⟨h1,⟨rfl,h2⟩ | ⟨g,cap,cur,rfl,hbg,hg,h3⟩⟩
 ·exact⟨h1,.inl ⟨rfl,h2⟩⟩
 ·have hlt:g<w.heap.size:=(Array.getElem?_eq_some_iff.1 hg).1
  exact⟨h1,.inr ⟨g,cap,cur,rfl,hbg,(hb.block g (by omega)).trans hg,h3⟩⟩
end Go.Proofs.YtkekkbciiohbkaaGreatDoor.U
namespace Go.Proofs.YtkekkbciiohbkaaGreatDoor.E
open Go.RowKit
theorem hid{p:Prop}(h:p):Hid p:=h
def ctl(r:Int):Bool:=decide (r<32)||decide (126<r)
def sgn:Nat→List Int
 | 1=>[32,34,60,62,96]
 | 2=>[32,34,35,60,62]
 | 3=>[32,34,35,60,62,39]
 | 4=>[32,34,35,60,62,63,94,96,123,125]
 | 5=>[32,34,35,60,62,63,94,96,123,125,47,58,59,61,64,91,92,93,124]
 | 6=>[32,34,35,60,62,63,94,96,123,125,47,58,59,61,64,91,92,93,124,36,37,38,43,44]
 | _=>[]
def inS(r:Int)(k:Nat):Bool:=decide (k≤6)&&(ctl r||(sgn k).contains r)
theorem mA{r:Int}{k:Nat}(h:6<k):inS r k=false:=by unfold inS;rw[decide_eq_false (by omega)];rfl
theorem zN{r:Int}{k:Nat}(hk:k≤6)(h:inS r k=false):32≤r∧r≤126:=by
 unfold inS ctl at h
 rw[decide_eq_true hk]at h;simp at h
 omega
def dg(n:Int):Int:=if n<10 then 48+n else 55+n
def pe(b:Int):List Int:=[37,dg (b / 16),dg (b % 16)]
def tok(k:Nat)(c:Int):List Int:=if inS c k=true then (U.enc c).flatMap pe else U.enc c
def en(k:Nat)(l:List Int):List Int:=l.flatMap (tok k)
theorem wT(k:Nat)(a b:List Int):en k (a++b)=en k a++en k b:=List.flatMap_append
theorem uU(k:Nat)(l:List Int)(c:Int):en k (l++[c])=en k l++tok k c:=by rw[wT];simp[en]
theorem js:∀ l:List Int,(l.flatMap pe).length=3 * l.length
 | []=>rfl
 | b::l=>by rw[List.flatMap_cons,List.length_append,js l,List.length_cons];show 3+_=_;omega
def hx(c:Int):Int:=if 48≤c∧c≤57 then c - 48 else if 97≤c∧c≤102 then c - 87 else if 65≤c∧c≤70 then c - 55 else -1
def de:List Int→List Int
 | []=>[]
 | [a]=>[a]
 | [a,b]=>[a,b]
 | c::a::b::t=>if c=37∧0≤hx a∧0≤hx b then (16 * hx a+hx b)::de t else c::de (a::b::t)
theorem pO{a b:Int}{t:List Int}(ha:0≤hx a)(hb:0≤hx b):de (37::a::b::t)=(16 * hx a+hx b)::de t:=by rw[de,if_pos ⟨rfl,ha,hb⟩]
theorem rY{c:Int}{t:List Int}(h:¬ (c=37∧2≤t.length∧0≤hx (t[0]?.getD 0)∧0≤hx (t[1]?.getD 0))):de (c::t)=c::de t:=by
 match t,h with
 | [],_=>rfl
 | [a],_=>rfl
 | a::b::t,h =>
  rw[de,if_neg (fun hh=>h ⟨hh.1,by simp,hh.2.1,hh.2.2⟩)]
theorem bw(c:Int):-1≤hx c∧hx c≤15:=by unfold hx;(repeat' split) <;> omega
theorem mU:∀(n:Nat) (l:List Int),l.length≤n→(de l).length≤l.length
 | _,[],_=>Nat.le_refl _
 | _,[a],_=>Nat.le_refl _
 | _,[a,b],_=>Nat.le_refl _
 | 0,c::a::b::t,h=>by simp at h
 | n+1,c::a::b::t,h=>by
  rw[de];split
  ·have:=mU n t (by simp at h;omega)
   simp;omega
  ·have:=mU n (a::b::t) (by simp at h ⊢;omega)
   simp at this ⊢;omega
theorem eM{c:Int}(h:c<128):U.enc c=[c]:=by unfold U.enc;rw[if_pos h]
theorem bu{c:Int}(h:U.az c=true):0≤c∧c≤1114111:=by
 unfold U.az at h
 have:=of_decide_eq_true h;omega
theorem Dz:∀ k:Fin 7,∀ n:Fin 16,inS (dg n.val) k.val=false:=by decide +kernel
theorem Ij{n:Int}(h0:0≤n)(h1:n≤15):48≤dg n∧dg n≤70:=by unfold dg;split <;> omega
theorem mP{k:Nat}(hk:k≤6){l:List Int}(h:∀ c∈l,U.az c=true):∀ y∈en k l,32≤y∧y≤126∧(inS y k=true→y=37):=by
 intro y hy
 obtain⟨c,hc,hyc⟩:=List.mem_flatMap.1 hy;have hb:=bu (h c hc);unfold tok at hyc
 split at hyc
 ·obtain⟨b,hbm,hyb⟩:=List.mem_flatMap.1 hyc
  have hbb:=U.dX c hb.1 hb.2 b hbm
  have key:∀ n:Int,0≤n→n≤15→32≤dg n∧dg n≤126∧(inS (dg n) k=true→dg n=37):=fun n h0 h1=>by
   have h2:=Ij h0 h1;have h3:=Dz ⟨k,by omega⟩ ⟨n.toNat,by omega⟩;simp only at h3
   rw[show((n.toNat:Nat):Int)=n by omega]at h3;exact⟨by omega,by omega,fun hh=>by rw[h3]at hh;cases hh⟩
  have hyb':y=37∨y=dg (b / 16)∨y=dg (b % 16):=by simpa[pe]using hyb
  rcases hyb' with rfl | rfl | rfl
  ·exact⟨by omega,by omega,fun _=>rfl⟩
  ·exact key _ (by omega) (by omega)
  ·exact key _ (by omega) (by omega)
 ·rename_i hi
  have hi':inS c k=false:=by simpa using hi
  have h2:=zN hk hi';rw[eM (by omega)]at hyc;simp at hyc
  subst hyc;exact⟨h2.1,h2.2,fun hh=>by rw[hi']at hh;cases hh⟩
theorem eN(s:ByteArray):∀ c∈U.dec (U.bn s),U.az c=true:=List.all_eq_true.1 (U.gT (U.bn s).length (U.bn s) (Nat.le_refl _) (U.aM s))
theorem mQ{k:Nat}{l:List Int}(h:∀ c∈l,U.az c=true):U.Bytes (en k l):=by
 by_cases hk:k≤6
 ·intro y hy
  have:=mP hk h y hy;omega
 ·intro y hy
  obtain⟨c,hc,hyc⟩:=List.mem_flatMap.1 hy;have hb:=bu (h c hc);unfold tok at hyc
  rw[mA (by omega),if_neg (by decide)]at hyc;exact U.dX c hb.1 hb.2 y hyc
end Go.Proofs.YtkekkbciiohbkaaGreatDoor.E
