/- Texts one behind the other: VM VD VN VE FX. -/
import Derived.Test.YtkekkbciiohbkaaGreatDoorZ38
import Derived.Test.YtkekkbciiohbkaaGreatDoorZ4
import Derived.Test.YtkekkbciiohbkaaGreatDoorZ29
import Derived.Test.YtkekkbciiohbkaaGreatDoorZ3
import Derived.OrdersHeld
import Derived.Deep.RegionHeld
import Derived.Deep.QuietTactic
import Derived.BigQuiet
import Derived.Laws.IdiomStrings
import Derived.Laws.OwnMore
import Derived.Shelf.Strconv.AppendUint10
set_option maxRecDepth 100000
set_option maxHeartbeats 16000000
set_option linter.unusedVariables false
set_option linter.unnecessarySimpa false
namespace Go.Proofs.YtkekkbciiohbkaaGreatDoor.H
open Go.RowKit
open Go.Proofs.YtkekkbciiohbkaaGreatDoor.F (bn aa av aq ar hid aj ab ah aR aK)
section
variable {P : Program} {ops : Array Oper} {S : World → Prop}
theorem xx{o:Oper}{a:Act}(hg:o.guard=none)(ty:TypeId)(x:Operand)(ho:o.op=.load ty x)(g:Nat)(hx:a.eval x=.pointer (some ⟨g,0,none⟩))(t:TypeId)(cs:Array Value)(fr:Nat×Nat)(fs:Array Field)
  (hrow:∀ w,S w→w.heap[g]? = some (.cells cs t fr)) (hu:P.underlying ty=some (.struct fs)) (hi:(P.info? ty).map (·.size)=some cs.size):YieldsIf P ops S o (.agg cs) a:=by
 refine .inl ⟨by simp[Region.wanted,hg],fun w hS=>?_⟩;unfold execOp;simp only[ho,hx,Instr.loadAt,Instr.sureAddr,Sem.run_bind,Sem.run_pure,Result.andThen_ok,run_loadVar_row w g t ty cs fr (.struct fs) (hrow w hS) hu rfl hi]
theorem fI{o:Oper}{a:Act}{w:World}{K:Act→World→Prop}{Q:Exit→Act→World→Prop}{E:Prop}(hg:o.guard=none)(f:Nat)(ss:Array Operand)(ts:Array TypeId)(hop:o.op=Op.call { callee:=Callee.value (Operand.func f),args:=ss,argTypes:=ts })
  (vs:Array Value) (hs:ss.map a.eval=vs) (hen:(callFunc f vs).run P w=.ok (.enter f vs) w) {R:Ending→World→Prop} (hc:Calls P f vs w R) (hK:∀ e w',R e w'→∃ r,e=.returned r∧K (a.put o.dst r) w') :
  if Region.wanted o (yielded ops a.tmps)=true then Oper.wp P o a w K Q else E:=by
 have hw:Region.wanted o (yielded ops a.tmps)=true:=by simp[Region.wanted,hg]
 rw[if_pos hw];unfold Oper.wp
 have e:(execOp a.eval o).run P w=.ok (.enter f vs) w:=by
  have hf:a.eval (Operand.func f)=.func (.func f) #[] #[]:=rfl;simp[execOp,hop,resolve,invoke,hs,hf,Deferred.ofValue];exact hen
 rw[e,Oper.upon_enter];refine hc.mono ?_;intro e w' h
 obtain⟨r,rfl,hk⟩:=hK e w' h;exact hk
end
abbrev mops(ps:String):Array Oper:=#[{ dst:=some 11,op:=.load 26 (.tmp 1),type:=26,pos:=ps,after:=#[],guard:=none },
  { dst:=some 12,op:=.call { callee:=.value (.func 11),args:=#[.tmp 11],argTypes:=#[26] },type:=9,pos:=ps,after:=#[{ on:=0,ground:=.data }],guard:=none },
  { dst:=some 13,op:=.fieldAddr 26 (.tmp 1) 0,type:=0,pos:=ps,after:=#[],guard:=none },
  { dst:=some 14,op:=.load 5 (.tmp 13),type:=5,pos:=ps,after:=#[{ on:=2,ground:=.data }],guard:=none },
  { dst:=some 15,op:=.binOp .neq 5 (.tmp 14) (.const (.int .u8 4)) 5,type:=4,pos:=ps,after:=#[{ on:=3,ground:=.data }],guard:=none },
  { dst:=some 16,op:=.call { callee:=.value (.func 9),args:=#[.tmp 12,.tmp 15],argTypes:=#[9,4] },type:=29,pos:=ps,after:=#[{ on:=1,ground:=.data },{ on:=4,ground:=.data },{ on:=1,ground:=.chain }],guard:=none },
  { dst:=some 10,op:=.move (.tmp 16),type:=29,pos:=ps,after:=#[{ on:=5,ground:=.data }],guard:=none },
  { dst:=some 17,op:=.extract (.tmp 10) 0,type:=26,pos:=ps,after:=#[{ on:=6,ground:=.data }],guard:=none },
  { dst:=some 18,op:=.extract (.tmp 10) 1,type:=28,pos:=ps,after:=#[{ on:=6,ground:=.data },{ on:=10,ground:=(.gcOnly .lateStores) }],guard:=none },
  { dst:=some 4,op:=.alloc 26,type:=0,pos:=ps,after:=#[],guard:=none },
  { dst:=none,op:=.store 26 (.tmp 4) (.tmp 17),type:=0,pos:=ps,after:=#[{ on:=9,ground:=.data },{ on:=7,ground:=.data },{ on:=5,ground:=.chain },{ on:=0,ground:=.phase },{ on:=1,ground:=.phase },{ on:=2,ground:=.phase },{ on:=3,ground:=.phase },{ on:=4,ground:=.phase },{ on:=5,ground:=.phase },{ on:=6,ground:=.phase },{ on:=7,ground:=.phase },{ on:=8,ground:=(.textOnly .lateStores) },{ on:=9,ground:=.phase }],guard:=none },
  { dst:=some 5,op:=.assign (.tmp 18),type:=28,pos:=ps,after:=#[{ on:=8,ground:=.data },{ on:=10,ground:=.chain },{ on:=0,ground:=.phase },{ on:=1,ground:=.phase },{ on:=2,ground:=.phase },{ on:=3,ground:=.phase },{ on:=4,ground:=.phase },{ on:=5,ground:=.phase },{ on:=6,ground:=.phase },{ on:=7,ground:=.phase },{ on:=8,ground:=.phase },{ on:=9,ground:=.phase },{ on:=10,ground:=.phase }],guard:=none }]
abbrev MA(V0 P1 V2 P3 V6 V7 V8 V9 v4 v5 v10 v11 v12 v13 v14 v15 v16 v17 v18:Value):Act:=⟨#[V0,P1,V2,P3,v4,v5,V6,V7,V8,V9,v10,v11,v12,v13,v14,v15,v16,v17,v18,undef,undef,undef,undef,undef,undef,undef],[]⟩
abbrev xcs(x:Hst)(n:ByteArray):Array Value:=hcs (x.1:Nat) n (x.2.2.1:Nat) ((x.2.2.2.1[0]?.getD 0:Nat):Int) ((x.2.2.2.1[1]?.getD 0:Nat):Int) ((x.2.2.2.1[2]?.getD 0:Nat):Int) ((x.2.2.2.1[3]?.getD 0:Nat):Int) ((x.2.2.2.1[4]?.getD 0:Nat):Int) ((x.2.2.2.1[5]?.getD 0:Nat):Int) ((x.2.2.2.1[6]?.getD 0:Nat):Int) ((x.2.2.2.1[7]?.getD 0:Nat):Int)
def Sm(w:World)(cs:Array Value)(W:World):Prop:=W.heap[w.heap.size]? = some (.cells cs 26 (0,0))∧Below w.heap.size w W
theorem Sm.step{w:World}{cs:Array Value}{W W':World}(h:Sm w cs W)(hb:Below W.heap.size W W'):Sm w cs W':=⟨(hb.block _ (Array.getElem?_eq_some_iff.1 h.1).1).trans h.1,h.2.trans (hb.mono h.2.size)⟩
theorem Sm.new{w:World}{cs:Array Value}{W:World}(h:Sm w cs W)(o:Obj):Sm w cs (W.alloc o):=h.step ((Below.refl _ W).alloc (Nat.le_refl _) o)
theorem Sm.put{w:World}{cs:Array Value}{W:World}(h:Sm w cs W){g:Nat}(hg:w.heap.size<g)(ys:Array Value):Sm w cs (W.setRow g ys):=by
 have hb:Below (w.heap.size+1) W W:=Below.refl _ _;have hb2:=X.aw hb (g:=g) (by omega) ys;exact⟨(hb2.block _ (by omega)).trans h.1,X.aw h.2 (by omega) ys⟩
theorem xp(ev:Operand→Value)(o:Oper)(ho:o.op=.alloc 26)(W:World):(execOp ev o).run Tryz.prog W=.ok (.value (.pointer (some ⟨W.heap.size,0,none⟩))) (W.alloc (.cells (hcs 0 ⟨#[]⟩ 0 0 0 0 0 0 0 0 0) 26)):=by
 unfold execOp;simp only[ho]
 go_simp
theorem lL{ps:String}{o:Oper}{a:Act}{W:World}{K:Act→World→Prop}{Q:Exit→Act→World→Prop}{E:Prop}(hg:o.guard=none)(ho:o.op=.alloc 26)(hK:K (a.put o.dst (.pointer (some ⟨W.heap.size,0,none⟩))) (W.alloc (.cells (hcs 0 ⟨#[]⟩ 0 0 0 0 0 0 0 0 0) 26))):
  if Region.wanted o (yielded (mops ps) a.tmps)=true then Oper.wp Tryz.prog o a W K Q else E:=by
 have hw:Region.wanted o (yielded (mops ps) a.tmps)=true:=by simp[Region.wanted,hg]
 rw[if_pos hw];unfold Oper.wp;rw[xp a.eval o ho W,Oper.upon_value];exact hK
theorem yh{ps:String}{o:Oper}{a:Act}{W:World}{K:Act→World→Prop}{Q:Exit→Act→World→Prop}{E:Prop}(hg:o.guard=none)(x y:Operand)(ho:o.op=.store 26 x y)(g:Nat)(cells:Array Value)(hx:a.eval x=.pointer (some ⟨g,0,none⟩))(hy:a.eval y=.agg cells)
  (old:Array Value) (hr:W.heap[g]? = some (.cells old 26 (0,0))) (hi:(Tryz.prog.info? 26).map (·.size)=some cells.size) (hold:old.size=cells.size) (h1:cells.all (·.oneCell')=true) (hK:K (a.put o.dst undef) (W.setRow g cells)) :
  if Region.wanted o (yielded (mops ps) a.tmps)=true then Oper.wp Tryz.prog o a W K Q else E:=by
 have hw:Region.wanted o (yielded (mops ps) a.tmps)=true:=by simp[Region.wanted,hg]
 rw[if_pos hw];exact wp_store_row 26 x y ho g cells hx hy 26 old hr hi hold h1 hK
theorem zH{o:Oper}{ev:Operand→Value}(x:Operand)(ho:o.op=.load 5 x)(g:Nat)(hx:ev x=.pointer (some ⟨g,0,none⟩)){W:World}{v:Int}(F0:W.cell? ⟨g,0,none⟩=some (.int .u8 v)):(execOp ev o).run Tryz.prog W=.ok (.value (.int .u8 v)) W:=by
 unfold execOp;simp only[ho,hx]
 go_simp
theorem A8{o:Oper}{ev:Operand→Value}(x:Operand)(ho:o.op=.fieldAddr 26 x 0)(g:Nat)(hx:ev x=.pointer (some ⟨g,0,none⟩))(W:World):(execOp ev o).run Tryz.prog W=.ok (.value (.pointer (some ⟨g,0,none⟩))) W:=by
 unfold execOp;simp only[ho,hx]
 go_simp
theorem CI{o:Oper}{ev:Operand→Value}(x y:Operand)(ho:o.op=.binOp .neq 5 x y 5)(v u:Int)(hx:ev x=.int .u8 v)(hy:ev y=.int .u8 u)(W:World):(execOp ev o).run Tryz.prog W=.ok (.value (.bool (v != u))) W:=by
 unfold execOp;simp only[ho,hx,hy]
 go_simp
theorem sV(ps:String)(k:Nat)(n:ByteArray)(f:Nat)(a0 a1 a2 a3 a4 a5 a6 a7:Nat)(sp:Bool)(hsp:((k:Int) != 4)=sp)(V0 P1 V2 P3 V6 V7 V8 V9:Value)(w v:World)(hP1:P1=(.pointer (some ⟨w.heap.size,0,none⟩))){Q:Exit→Act→World→Prop}(hQ:∀ c a (d:Option Tmp) x w,Q (.panic c) (Act.put a d x) w→Q (.panic c) a w)
  (hv:Sm w (hcs (k:Nat) n (f:Nat) (a0:Nat) (a1:Nat) (a2:Nat) (a3:Nat) (a4:Nat) (a5:Nat) (a6:Nat) (a7:Nat)) v) (HT:∀ W,Below w.heap.size w W→Calls Tryz.prog 11 #[.agg (hcs (k:Nat) n (f:Nat) (a0:Nat) (a1:Nat) (a2:Nat) (a3:Nat) (a4:Nat) (a5:Nat) (a6:Nat) (a7:Nat))] W fun e W'=>ia (k,bn n,f,[a0,a1,a2,a3,a4,a5,a6,a7],0) W e W')
  (HC:∀ t W,bn t=txt (k,bn n,f,[a0,a1,a2,a3,a4,a5,a6,a7],0)→Below w.heap.size w W→Calls Tryz.prog 9 #[.string t,.bool sp] W fun e W'=>ib IA (bn t) sp W e W')
  (post:∀(t:ByteArray) (x:Hst) (n':ByteArray) (g:Nat) (W:World),bn t=txt (k,bn n,f,[a0,a1,a2,a3,a4,a5,a6,a7],0)→HP IA (bn t) sp x→bn n'=x.2.1→W.heap[g]? = some (.cells (xcs x n') 26 (0,0))→Sm w (hcs (k:Nat) n (f:Nat) (a0:Nat) (a1:Nat) (a2:Nat) (a3:Nat) (a4:Nat) (a5:Nat) (a6:Nat) (a7:Nat)) W→Q .normal (MA V0 P1 V2 P3 V6 V7 V8 V9 (.pointer (some ⟨g,0,none⟩)) (.int .i64 x.2.2.2.2) (.tuple #[(.agg (xcs x n')),(.int .i64 x.2.2.2.2)]) (.agg (hcs (k:Nat) n (f:Nat) (a0:Nat) (a1:Nat) (a2:Nat) (a3:Nat) (a4:Nat) (a5:Nat) (a6:Nat) (a7:Nat))) (.string t) (.pointer (some ⟨w.heap.size,0,none⟩)) (.int .u8 (k:Nat)) (.bool sp) (.tuple #[(.agg (xcs x n')),(.int .i64 x.2.2.2.2)]) (.agg (xcs x n')) (.int .i64 x.2.2.2.2)) W) :
  (Code.region 4 (mops ps) true).wp Tryz.prog Q (MA V0 P1 V2 P3 V6 V7 V8 V9 undef undef undef undef undef undef undef undef undef undef undef) v:=by
 have e1:=enters_of Tryz.func11 (by kernel_rfl) rfl;have e2:=enters_of Tryz.func9 (by kernel_rfl) rfl;subst hP1
 have TAIL:∀(t:ByteArray) (x:Hst) (n':ByteArray) (g:Nat) (W:World),bn t=txt (k,bn n,f,[a0,a1,a2,a3,a4,a5,a6,a7],0)→HP IA (bn t) sp x→bn n'=x.2.1→w.heap.size<g→W.heap[g]? = some (.cells (hcs 0 ⟨#[]⟩ 0 0 0 0 0 0 0 0 0) 26 (0,0))→Sm w (hcs (k:Nat) n (f:Nat) (a0:Nat) (a1:Nat) (a2:Nat) (a3:Nat) (a4:Nat) (a5:Nat) (a6:Nat) (a7:Nat)) W →
   wpAnyH Tryz.prog .any (mops ps) Q (Sm w (hcs (k:Nat) n (f:Nat) (a0:Nat) (a1:Nat) (a2:Nat) (a3:Nat) (a4:Nat) (a5:Nat) (a6:Nat) (a7:Nat))) 2 #[true,true,true,true,true,true,true,true,true,true,false,false] (MA V0 (.pointer (some ⟨w.heap.size,0,none⟩)) V2 P3 V6 V7 V8 V9 (.pointer (some ⟨g,0,none⟩)) undef (.tuple #[(.agg (xcs x n')),(.int .i64 x.2.2.2.2)]) (.agg (hcs (k:Nat) n (f:Nat) (a0:Nat) (a1:Nat) (a2:Nat) (a3:Nat) (a4:Nat) (a5:Nat) (a6:Nat) (a7:Nat))) (.string t) (.pointer (some ⟨w.heap.size,0,none⟩)) (.int .u8 (k:Nat)) (.bool sp) (.tuple #[(.agg (xcs x n')),(.int .i64 x.2.2.2.2)]) (.agg (xcs x n')) (.int .i64 x.2.2.2.2)) W:=by
  intro t x n' g W h1 h2 h3 hg hr hS
  refine wpAnyH_ready (rs:=[10]) (by kernel_rfl) (by decide) (AllReadyH.cons rfl (fun K hK=>?_) AllReadyH.nil);refine yh rfl (.tmp 4) (.tmp 17) rfl g (xcs x n') rfl rfl (hcs 0 ⟨#[]⟩ 0 0 0 0 0 0 0 0 0) hr (aZ _ _ _ _ _ _ _ _ _ _ _) rfl (eD _ _ _ _ _ _ _ _ _ _ _) ?_;refine hK.out _ _ (hS.put hg _) (fun hS=>?_);refine wpAnyH_take (i:=11) (v:=(.int .i64 x.2.2.2.2)) rfl (by kernel_rfl) (by kernel_rfl) (by kernel_rfl) (fun _ _ _ h=>hQ _ _ _ _ _ h) (.inl ⟨rfl,fun W hW=>rfl⟩) hS ?_;refine wpAnyH_done (by kernel_rfl) ?_ 0;exact post t x n' g _ h1 h2 h3 (X.aN hr) hS
 have T678:∀(t:ByteArray) (x:Hst) (n':ByteArray) (g:Nat) (W:World),bn t=txt (k,bn n,f,[a0,a1,a2,a3,a4,a5,a6,a7],0)→HP IA (bn t) sp x→bn n'=x.2.1→w.heap.size<g→W.heap[g]? = some (.cells (hcs 0 ⟨#[]⟩ 0 0 0 0 0 0 0 0 0) 26 (0,0))→Sm w (hcs (k:Nat) n (f:Nat) (a0:Nat) (a1:Nat) (a2:Nat) (a3:Nat) (a4:Nat) (a5:Nat) (a6:Nat) (a7:Nat)) W →
   wpAnyH Tryz.prog .any (mops ps) Q (Sm w (hcs (k:Nat) n (f:Nat) (a0:Nat) (a1:Nat) (a2:Nat) (a3:Nat) (a4:Nat) (a5:Nat) (a6:Nat) (a7:Nat))) 5 #[true,true,true,true,true,true,false,false,false,true,false,false] (MA V0 (.pointer (some ⟨w.heap.size,0,none⟩)) V2 P3 V6 V7 V8 V9 (.pointer (some ⟨g,0,none⟩)) undef undef (.agg (hcs (k:Nat) n (f:Nat) (a0:Nat) (a1:Nat) (a2:Nat) (a3:Nat) (a4:Nat) (a5:Nat) (a6:Nat) (a7:Nat))) (.string t) (.pointer (some ⟨w.heap.size,0,none⟩)) (.int .u8 (k:Nat)) (.bool sp) (.tuple #[(.agg (xcs x n')),(.int .i64 x.2.2.2.2)]) undef undef) W:=by
  intro t x n' g W h1 h2 h3 hg hr hS
  refine wpAnyH_take (i:=6) (v:=(.tuple #[(.agg (xcs x n')),(.int .i64 x.2.2.2.2)])) rfl (by kernel_rfl) (by kernel_rfl) (by kernel_rfl) (fun _ _ _ h=>hQ _ _ _ _ _ h) (.inl ⟨rfl,fun W hW=>rfl⟩) hS ?_;refine wpAnyH_take (i:=7) (v:=(.agg (xcs x n'))) rfl (by kernel_rfl) (by kernel_rfl) (by kernel_rfl) (fun _ _ _ h=>hQ _ _ _ _ _ h) (.inl ⟨rfl,fun W hW=>rfl⟩) hS ?_;refine wpAnyH_take (i:=8) (v:=(.int .i64 x.2.2.2.2)) rfl (by kernel_rfl) (by kernel_rfl) (by kernel_rfl) (fun _ _ _ h=>hQ _ _ _ _ _ h) (.inl ⟨rfl,fun W hW=>rfl⟩) hS ?_;exact TAIL t x n' g W h1 h2 h3 hg hr hS
 have H5:∀(t:ByteArray) (g:Nat) (W:World),bn t=txt (k,bn n,f,[a0,a1,a2,a3,a4,a5,a6,a7],0)→w.heap.size<g→W.heap[g]? = some (.cells (hcs 0 ⟨#[]⟩ 0 0 0 0 0 0 0 0 0) 26 (0,0))→Sm w (hcs (k:Nat) n (f:Nat) (a0:Nat) (a1:Nat) (a2:Nat) (a3:Nat) (a4:Nat) (a5:Nat) (a6:Nat) (a7:Nat)) W →
   wpAnyH Tryz.prog .any (mops ps) Q (Sm w (hcs (k:Nat) n (f:Nat) (a0:Nat) (a1:Nat) (a2:Nat) (a3:Nat) (a4:Nat) (a5:Nat) (a6:Nat) (a7:Nat))) 6 #[true,true,true,true,true,false,false,false,false,true,false,false] (MA V0 (.pointer (some ⟨w.heap.size,0,none⟩)) V2 P3 V6 V7 V8 V9 (.pointer (some ⟨g,0,none⟩)) undef undef (.agg (hcs (k:Nat) n (f:Nat) (a0:Nat) (a1:Nat) (a2:Nat) (a3:Nat) (a4:Nat) (a5:Nat) (a6:Nat) (a7:Nat))) (.string t) (.pointer (some ⟨w.heap.size,0,none⟩)) (.int .u8 (k:Nat)) (.bool sp) undef undef undef) W:=by
  intro t g W h1 hg hr hS
  refine wpAnyH_ready (rs:=[5]) (by kernel_rfl) (by decide) (AllReadyH.cons rfl (fun K hK=>?_) AllReadyH.nil);refine fI rfl 9 #[.tmp 12,.tmp 15] #[9,4] rfl #[.string t,.bool sp] (by rw[List.map_toArray];rfl) (e2 _ _) (HC t W h1 hS.2) ?_;rintro e W' ⟨⟨x,n',h2,h3,rfl⟩,hb⟩
  refine⟨_,rfl,hK.out _ _ (hS.step hb) (fun hS2=>?_)⟩;exact T678 t x n' g W' h1 h2 h3 hg ((hb.block _ (Array.getElem?_eq_some_iff.1 hr).1).trans hr) hS2
 have hgt:∀ W,Sm w (hcs (k:Nat) n (f:Nat) (a0:Nat) (a1:Nat) (a2:Nat) (a3:Nat) (a4:Nat) (a5:Nat) (a6:Nat) (a7:Nat)) W→w.heap.size<W.heap.size:=fun W h=>(Array.getElem?_eq_some_iff.1 h.1).1
 refine wp_region_held_drew (S:=Sm w (hcs (k:Nat) n (f:Nat) (a0:Nat) (a1:Nat) (a2:Nat) (a3:Nat) (a4:Nat) (a5:Nat) (a6:Nat) (a7:Nat))) (by kernel_rfl) ⟨hv.1,X.below_drewN hv.2 1⟩ (fun hS=>?_);show wpAnyH _ _ _ _ _ 12 _ _ _
 refine wpAnyH_take (i:=0) (v:=(.agg (hcs (k:Nat) n (f:Nat) (a0:Nat) (a1:Nat) (a2:Nat) (a3:Nat) (a4:Nat) (a5:Nat) (a6:Nat) (a7:Nat)))) rfl (by kernel_rfl) (by kernel_rfl) (by kernel_rfl) (fun _ _ _ h=>hQ _ _ _ _ _ h) (xx rfl 26 (.tmp 1) rfl w.heap.size rfl 26 _ (0,0) _ (fun W h=>h.1) Tryz.underlying26 (aZ (k:Nat) n (f:Nat) (a0:Nat) (a1:Nat) (a2:Nat) (a3:Nat) (a4:Nat) (a5:Nat) (a6:Nat) (a7:Nat))) hS ?_;refine wpAnyH_take (i:=2) (v:=(.pointer (some ⟨w.heap.size,0,none⟩))) rfl (by kernel_rfl) (by kernel_rfl) (by kernel_rfl) (fun _ _ _ h=>hQ _ _ _ _ _ h) (.inl ⟨rfl,fun W hW=>A8 (.tmp 1) rfl w.heap.size rfl W⟩) hS ?_;refine wpAnyH_take (i:=3) (v:=(.int .u8 (k:Nat))) rfl (by kernel_rfl) (by kernel_rfl) (by kernel_rfl) (fun _ _ _ h=>hQ _ _ _ _ _ h) (.inl ⟨rfl,fun W hW=>zH (.tmp 13) rfl w.heap.size rfl (cell_of_row _ _ 0 _ _ _ hW.1)⟩) hS ?_;refine wpAnyH_take (i:=4) (v:=(.bool sp)) rfl (by kernel_rfl) (by kernel_rfl) (by kernel_rfl) (fun _ _ _ h=>hQ _ _ _ _ _ h) (.inl ⟨rfl,fun W hW=>by rw[←hsp];exact CI (.tmp 14) (.const (.int .u8 4)) rfl _ _ rfl rfl W⟩) hS ?_;show wpAnyH Tryz.prog .any (mops ps) Q (Sm w (hcs (k:Nat) n (f:Nat) (a0:Nat) (a1:Nat) (a2:Nat) (a3:Nat) (a4:Nat) (a5:Nat) (a6:Nat) (a7:Nat))) 8 #[true,false,true,true,true,false,false,false,false,false,false,false] (MA V0 (.pointer (some ⟨w.heap.size,0,none⟩)) V2 P3 V6 V7 V8 V9 undef undef undef (.agg (hcs (k:Nat) n (f:Nat) (a0:Nat) (a1:Nat) (a2:Nat) (a3:Nat) (a4:Nat) (a5:Nat) (a6:Nat) (a7:Nat))) undef (.pointer (some ⟨w.heap.size,0,none⟩)) (.int .u8 (k:Nat)) (.bool sp) undef undef undef) _
 refine wpAnyH_ready (rs:=[1,9]) (by kernel_rfl) (by decide) (AllReadyH.cons rfl (fun K hK=>?_) (AllReadyH.cons rfl (fun K hK=>?_) AllReadyH.nil))
 ·refine fI rfl 11 #[.tmp 11] #[26] rfl #[.agg (hcs (k:Nat) n (f:Nat) (a0:Nat) (a1:Nat) (a2:Nat) (a3:Nat) (a4:Nat) (a5:Nat) (a6:Nat) (a7:Nat))] (by rw[List.map_toArray];rfl) (e1 _ _) (HT _ hS.2) ?_
  rintro e W' ⟨⟨t,rfl,ht⟩,hb⟩
  refine⟨_,rfl,hK.out _ _ (hS.step hb) (fun hS2=>?_)⟩;clear hS hb hK;show wpAnyH Tryz.prog .any (mops ps) Q (Sm w (hcs (k:Nat) n (f:Nat) (a0:Nat) (a1:Nat) (a2:Nat) (a3:Nat) (a4:Nat) (a5:Nat) (a6:Nat) (a7:Nat))) 7 #[true,true,true,true,true,false,false,false,false,false,false,false] (MA V0 (.pointer (some ⟨w.heap.size,0,none⟩)) V2 P3 V6 V7 V8 V9 undef undef undef (.agg (hcs (k:Nat) n (f:Nat) (a0:Nat) (a1:Nat) (a2:Nat) (a3:Nat) (a4:Nat) (a5:Nat) (a6:Nat) (a7:Nat))) (.string t) (.pointer (some ⟨w.heap.size,0,none⟩)) (.int .u8 (k:Nat)) (.bool sp) undef undef undef) _
  refine wpAnyH_ready (rs:=[5,9]) (by kernel_rfl) (by decide) (AllReadyH.cons rfl (fun K hK=>?_) (AllReadyH.cons rfl (fun K hK=>?_) AllReadyH.nil))
  ·refine fI rfl 9 #[.tmp 12,.tmp 15] #[9,4] rfl #[.string t,.bool sp] (by rw[List.map_toArray];rfl) (e2 _ _) (HC t _ ht hS2.2) ?_
   rintro e W2 ⟨⟨x,n',h2,h3,rfl⟩,hb⟩
   refine⟨_,rfl,hK.out _ _ (hS2.step hb) (fun hS=>?_)⟩;clear hS2 hb hK;show wpAnyH Tryz.prog .any (mops ps) Q (Sm w (hcs (k:Nat) n (f:Nat) (a0:Nat) (a1:Nat) (a2:Nat) (a3:Nat) (a4:Nat) (a5:Nat) (a6:Nat) (a7:Nat))) 6 #[true,true,true,true,true,true,false,false,false,false,false,false] (MA V0 (.pointer (some ⟨w.heap.size,0,none⟩)) V2 P3 V6 V7 V8 V9 undef undef undef (.agg (hcs (k:Nat) n (f:Nat) (a0:Nat) (a1:Nat) (a2:Nat) (a3:Nat) (a4:Nat) (a5:Nat) (a6:Nat) (a7:Nat))) (.string t) (.pointer (some ⟨w.heap.size,0,none⟩)) (.int .u8 (k:Nat)) (.bool sp) (.tuple #[(.agg (xcs x n')),(.int .i64 x.2.2.2.2)]) undef undef) _
   refine wpAnyH_take (i:=6) (v:=(.tuple #[(.agg (xcs x n')),(.int .i64 x.2.2.2.2)])) rfl (by kernel_rfl) (by kernel_rfl) (by kernel_rfl) (fun _ _ _ h=>hQ _ _ _ _ _ h) (.inl ⟨rfl,fun W hW=>rfl⟩) hS ?_;refine wpAnyH_take (i:=7) (v:=(.agg (xcs x n'))) rfl (by kernel_rfl) (by kernel_rfl) (by kernel_rfl) (fun _ _ _ h=>hQ _ _ _ _ _ h) (.inl ⟨rfl,fun W hW=>rfl⟩) hS ?_;refine wpAnyH_take (i:=8) (v:=(.int .i64 x.2.2.2.2)) rfl (by kernel_rfl) (by kernel_rfl) (by kernel_rfl) (fun _ _ _ h=>hQ _ _ _ _ _ h) (.inl ⟨rfl,fun W hW=>rfl⟩) hS ?_;show wpAnyH Tryz.prog .any (mops ps) Q (Sm w (hcs (k:Nat) n (f:Nat) (a0:Nat) (a1:Nat) (a2:Nat) (a3:Nat) (a4:Nat) (a5:Nat) (a6:Nat) (a7:Nat))) 3 #[true,true,true,true,true,true,true,true,true,false,false,false] (MA V0 (.pointer (some ⟨w.heap.size,0,none⟩)) V2 P3 V6 V7 V8 V9 undef undef (.tuple #[(.agg (xcs x n')),(.int .i64 x.2.2.2.2)]) (.agg (hcs (k:Nat) n (f:Nat) (a0:Nat) (a1:Nat) (a2:Nat) (a3:Nat) (a4:Nat) (a5:Nat) (a6:Nat) (a7:Nat))) (.string t) (.pointer (some ⟨w.heap.size,0,none⟩)) (.int .u8 (k:Nat)) (.bool sp) (.tuple #[(.agg (xcs x n')),(.int .i64 x.2.2.2.2)]) (.agg (xcs x n')) (.int .i64 x.2.2.2.2)) _
   refine wpAnyH_ready (rs:=[9]) (by kernel_rfl) (by decide) (AllReadyH.cons rfl (fun K hK=>?_) AllReadyH.nil);refine lL rfl rfl (hK.out _ _ (hS.new _) (fun hS2=>?_));exact TAIL t x n' _ _ ht h2 h3 (hgt _ hS) (X.bY _ _ _) hS2
  ·refine lL rfl rfl (hK.out _ _ (hS2.new _) (fun hS=>?_))
   exact H5 t _ _ ht (hgt _ hS2) (X.bY _ _ _) hS
 ·refine lL rfl rfl (hK.out _ _ (hS.new _) (fun hS2=>?_))
  have hg:=hgt _ hS;have hr:(World.alloc v.drew (Obj.cells (hcs 0 ⟨#[]⟩ 0 0 0 0 0 0 0 0 0) 26)).heap[v.drew.heap.size]? = some (.cells (hcs 0 ⟨#[]⟩ 0 0 0 0 0 0 0 0 0) 26 (0,0)):=X.bY v.drew _ _
  generalize v.drew.alloc (Obj.cells (hcs 0 ⟨#[]⟩ 0 0 0 0 0 0 0 0 0) 26)=W1 at hS2 hr ⊢
  generalize v.drew.heap.size=g at hg hr ⊢
  clear hS hK;show wpAnyH Tryz.prog .any (mops ps) Q (Sm w (hcs (k:Nat) n (f:Nat) (a0:Nat) (a1:Nat) (a2:Nat) (a3:Nat) (a4:Nat) (a5:Nat) (a6:Nat) (a7:Nat))) 7 #[true,false,true,true,true,false,false,false,false,true,false,false] (MA V0 (.pointer (some ⟨w.heap.size,0,none⟩)) V2 P3 V6 V7 V8 V9 (.pointer (some ⟨g,0,none⟩)) undef undef (.agg (hcs (k:Nat) n (f:Nat) (a0:Nat) (a1:Nat) (a2:Nat) (a3:Nat) (a4:Nat) (a5:Nat) (a6:Nat) (a7:Nat))) undef (.pointer (some ⟨w.heap.size,0,none⟩)) (.int .u8 (k:Nat)) (.bool sp) undef undef undef) W1
  refine wpAnyH_ready (rs:=[1]) (by kernel_rfl) (by decide) (AllReadyH.cons rfl (fun K hK=>?_) AllReadyH.nil);refine fI rfl 11 #[.tmp 11] #[26] rfl #[.agg (hcs (k:Nat) n (f:Nat) (a0:Nat) (a1:Nat) (a2:Nat) (a3:Nat) (a4:Nat) (a5:Nat) (a6:Nat) (a7:Nat))] (by rw[List.map_toArray];rfl) (e1 _ _) (HT _ hS2.2) ?_;rintro e W' ⟨⟨t,rfl,ht⟩,hb⟩
  refine⟨_,rfl,hK.out _ _ (hS2.step hb) (fun hS=>?_)⟩;exact H5 t g W' ht hg ((hb.block _ (Array.getElem?_eq_some_iff.1 hr).1).trans hr) hS
open Go.Proofs.YtkekkbciiohbkaaGreatDoor.F (hid)
set_option linter.unusedSimpArgs false
structure Ew(h:Hst):Prop where
 k:h.1≤4
 f:h.2.2.1<4294967296
 a:h.2.2.2.1.length=8
 s:X.Small h.2.2.2.1
 e:h.2.2.2.2≠0→h=non h.2.2.2.2
 b:0≤h.2.2.2.2∧h.2.2.2.2≤70
 n:h.2.1=txt h∨h.2.1=[]
theorem eu{e:Int}(h0:0≤e)(h1:e≤70):Ew (non e):=⟨Nat.zero_le _,by show 0<4294967296;decide,rfl,bq,fun _=>rfl,⟨h0,h1⟩,.inr rfl⟩
theorem HP.fine{A:List Int→List Int→Int→Prop}{s:List Int}{sp:Bool}{h:Hst}(x:HP A s sp h):Ew h:=by
 unfold HP at x
 split at x
 ·rw[x];exact eu (by decide) (by decide)
 split at x
 ·unfold six at x
  split at x
  ·cases hp:X.prs ((s.drop 1).dropLast) with
   | none=>rw[hp]at x;rw[x];exact eu (by decide) (by decide)
   | some a =>
    rw[hp]at x;rw[x];exact⟨by simp,by simp,X.pj hp,X.nW hp,fun h=>absurd rfl h,by simp,.inr rfl⟩
  ·rw[x];exact eu (by decide) (by decide)
 split at x
 ·unfold opq at x
  split at x
  ·rw[x];exact eu (by decide) (by decide)
  ·split at x
   ·rw[x];exact eu (by decide) (by decide)
   ·rw[x];exact⟨by simp,by simp,rfl,bq,fun h=>absurd rfl h,by simp,.inl rfl⟩
 ·obtain⟨d,r,_,x⟩:=x
  unfold dom at x
  split at x
  ·rw[x];exact eu (by decide) (by decide)
  ·split at x
   ·split at x
    ·rename_i hp
     rw[x];exact⟨by simp,yC d hp,rfl,bq,fun h=>absurd rfl h,by simp,.inr rfl⟩
    ·rw[x];exact eu (by decide) (by decide)
   ·rw[x];exact⟨by simp,by simp,rfl,bq,fun h=>absurd rfl h,by simp,.inl rfl⟩
theorem eight{a:List Nat}(h:a.length=8):∃ a0 a1 a2 a3 a4 a5 a6 a7,a=[a0,a1,a2,a3,a4,a5,a6,a7]:=by
 match a,h with
 | [a0,a1,a2,a3,a4,a5,a6,a7],_=>exact⟨a0,a1,a2,a3,a4,a5,a6,a7,rfl⟩
theorem oq{A:List Int→List Int→Int→Prop}{s:List Int}{sp:Bool}{h:Hst}(x:HP A s sp h)(h0:h.2.2.2.2=0)(hk:h.1=0):h=non 0:=by
 unfold HP at x
 split at x
 ·rw[x]at h0;cases h0
 split at x
 ·unfold six at x
  split at x
  ·split at x
   ·rw[x]at hk;cases hk
   ·rw[x]at h0;cases h0
  ·rw[x]at h0;cases h0
 split at x
 ·unfold opq at x
  split at x
  ·rw[x]at h0;cases h0
  ·split at x
   ·exact x
   ·rw[x]at hk;cases hk
 ·obtain⟨d,r,_,x⟩:=x
  unfold dom at x
  split at x
  ·rw[x]at h0;cases h0
  ·split at x
   ·split at x
    ·rw[x]at hk;cases hk
    ·rw[x]at h0;cases h0
   ·rw[x]at hk;cases hk
theorem aM(s:ByteArray):U.Bytes (bn s):=by
 intro b hb
 unfold F.bn at hb
 obtain⟨c,_,rfl⟩:=List.mem_map.1 hb;have:=c.toNat_lt;omega
end Go.Proofs.YtkekkbciiohbkaaGreatDoor.H
namespace Go.Proofs
open Go.Shelf Go.RowKit
shelf_lay LaysM.n288 Nm 288 at Tryz as Tryz.laysAppU
end Go.Proofs
namespace Go.Proofs.YtkekkbciiohbkaaGreatDoor.F
open Go.RowKit
theorem Tryz.info5:(Tryz.prog.info? 5).map (fun i=>(i.zero,i.size,i.bytes))=some (some (.int .u8 0),1,1):=by kernel_rfl
theorem cq{base n:Nat}{v:Value}{X:List Value}{W:World}(h:W.ownsRow base 5 1 v n X):∃ a cap,v=.slice a n cap:=by
 rcases h.2 with⟨rfl,h0⟩ | ⟨g,cap,cur,rfl,_⟩
 ·exact⟨none,0,by rw[h0]⟩
 ·exact⟨_,cap,rfl⟩
def Bytes(l:List Int):Prop:=∀ b∈l,0≤b∧b≤255
theorem du:∀(ns:List Int),Bytes ns→(((ns.map fun n=>UInt8.ofNat n.toNat).toArray).toList.map fun c=>(c.toNat:Int))=ns
 | [],_=>rfl
 | a::l,h=>by
  have ih:=du l (fun b hb=>h b (by simp[hb]));have ha:=h a (by simp);simp only[List.map_cons]at ih ⊢;rw[ih]
  congr 1
  simp only[UInt8.toNat_ofNat'];omega
theorem dZ(g j:Nat):((⟨g,0,none⟩:Addr).add j)=⟨g,j,none⟩:=by
 simp[Addr.add];exact fun h=>h.symm
theorem aO(w:World)(base:Nat)(v:Value)(n:Nat)(ns:List Int)(hn:n=ns.length)(hb:Bytes ns)(hrow:w.ownsRow base 5 1 v n (ns.map (Value.int .u8))):
  ∃ t:ByteArray,(convert 36 9 v).run Tryz.prog w=.ok (.string t) w∧bn t=ns:=by
 subst hn;rcases id hrow.2 with⟨rfl,h0⟩ | ⟨g,cap,cur,rfl,_⟩
 ·refine⟨⟨#[]⟩,?_,?_⟩
  ·rw[run_convert_bytes_string w 36 9 5 none 0 0 Tryz.underlying36 Tryz.underlying5 Tryz.underlying9]
   simp[Conv.bytesToString];rfl
  ·rw[List.length_eq_zero_iff.1 h0];rfl
 ·refine⟨⟨(ns.map fun n=>UInt8.ofNat n.toNat).toArray⟩,?_,?_⟩
  ·have:=run_convert_bytes_back (P:=Tryz.prog) w 36 9 5 ⟨g,0,none⟩ cap (ns.map fun n=>UInt8.ofNat n.toNat) Tryz.underlying36 Tryz.underlying5 Tryz.underlying9 (by
     intro j hj
     rw[dZ,hrow.cellAt j (by simpa using hj)]
     have hj':j<ns.length:=by simpa using hj
     have hbj:=hb ns[j] (List.getElem_mem hj')
     rw[List.getElem?_map,List.getElem?_eq_getElem hj']
     simp only[Option.map_some,List.getElem_map,UInt8.toNat_ofNat']
     congr 2
     omega)
   rw[List.length_map]at this;exact this
  ·unfold bn
   simp only;exact du ns hb
theorem AG{u:Nat}(h:u<256):Lib.byteCells (Lib.decDigits u)=(wr 10 u).map (Value.int .u8):=by
 rw[←tp ⟨u,h⟩];unfold Lib.byteCells;rw[List.map_map];rfl
theorem fZ{u:Nat}(h:u<256):(Lib.decDigits u).length=(wr 10 u).length:=by
 rw[←tp ⟨u,h⟩,List.length_map]
theorem xz{u:Nat}(h:u<256):Bytes (wr 10 u):=by
 rw[←tp ⟨u,h⟩];intro b hb
 obtain⟨c,_,rfl⟩:=List.mem_map.1 hb;have:=c.toNat_lt;omega
theorem xy:∀ u:Fin 256,(wr 10 u.val).length≤3:=by decide +kernel
theorem AT(B m u c:Nat)(a:Option Addr)(X:List Int)(hu:u<256)(w:World)(hp:Pow w)(hB:B≤w.heap.size)(hm:m≤1000)(hown:w.ownsRow B 5 1 (.slice a m c) m (X.map (Value.int .u8))):
  Calls Tryz.prog 93 #[.slice a m c,.int .u64 u,.int .i64 10] w fun e W'=>(∃ a' c',e=.returned (.slice a' (m+(wr 10 u).length) c')∧W'.ownsRow B 5 1 (.slice a' (m+(wr 10 u).length) c') (m+(wr 10 u).length) ((X++wr 10 u).map (Value.int .u8)))∧Below B w W':=by
 have hf:Tryz.laysAppU_ren.f 288=93:=by kernel_rfl
 have ht:Tryz.laysAppU_ren.t 5=5:=by kernel_rfl
 have key:Calls Tryz.prog 93 #[.slice a m c,.int .u64 u,.int .i64 10] w fun e w'=>∃ v',e=.returned v'∧w'.ownsRow B 5 1 v' (m+(Lib.decDigits u).length) (X.map (Value.int .u8)++Lib.byteCells (Lib.decDigits u))∧Below B w w':=by
  rw[←hf,←ht];rw[←ht]at hown;by_cases h:u<100
  ·refine(Any.internal_strconv_AppendUint_10_small Tryz.laysAppU B m u h _ _ w hown hB (by omega)).mono ?_
   rintro e w' ⟨v,h1,h2,h3,_⟩
   exact⟨v,h1,h2,h3⟩
  ·refine(Any.internal_strconv_AppendUint_10_big Tryz.laysAppU B m u (by omega) (by omega) _ _ w hown hB (by omega) ?_).mono ?_
   ·unfold Lib.TabIs World.var?
    rw[show Tryz.prog.globalNamed _=some 0 from by kernel_rfl];exact hp
   ·rintro e w' ⟨v,h1,h2,h3,_⟩
    exact⟨v,h1,h2,h3⟩
 refine key.mono ?_;rintro e w' ⟨v,rfl,h2,h3⟩
 rw[AG hu,fZ hu,←List.map_append]at h2;obtain⟨a',c',rfl⟩:=cq h2;exact⟨⟨a',c',rfl,h2⟩,h3⟩
theorem AS(B m u c:Nat)(a:Option Addr)(X:List Int)(hu:u<256)(w:World)(hp:Pow w)(hB:B≤w.heap.size)(hm:m≤1000)(hown:w.ownsRow B 5 1 (.slice a m c) m (X.map (Value.int .u8))):
  Calls Tryz.prog 53 #[.slice a m c,.int .u64 u,.int .i64 10] w fun e W'=>(∃ a' c',e=.returned (.slice a' (m+(wr 10 u).length) c')∧W'.ownsRow B 5 1 (.slice a' (m+(wr 10 u).length) c') (m+(wr 10 u).length) ((X++wr 10 u).map (Value.int .u8)))∧Below B w W':=by
 have H:=hid (AT B m u c a X hu w hp hB hm hown);clear hp hown hB;go_enter Tryz.func53,Tryz.ntmps53
 go_wp2_with(go_at_call 93;refine H.out.mono ?_;rintro e w4 ⟨⟨q4,c4,rfl,r4⟩,B4⟩)
 go_ret;exact⟨⟨q4,c4,rfl,r4⟩,B4⟩
def pd(a:Nat):Nat→List Int
 | 0=>[]
 | k+1=>pd a k++(if 0<k then [46] else [])++wr 10 (byt a k)
theorem Fy{a:Nat}(ha:a<4294967296):pd a 4=txt a:=by
 have b0:byt a 0=a / 16777216:=by show a / 16777216 % 256=_;omega
 have b1:byt a 1=a / 65536 % 256:=rfl;have b2:byt a 2=a / 256 % 256:=rfl;have b3:byt a 3=a % 256:=by show a / 1 % 256=_;omega
 have e:pd a 4=(((([]++[]++wr 10 (byt a 0))++[46]++wr 10 (byt a 1))++[46])++wr 10 (byt a 2))++[46]++wr 10 (byt a 3):=rfl;have f:txt a=wr 10 (a / 16777216)++46::(wr 10 (a / 65536 % 256)++46::(wr 10 (a / 256 % 256)++46::wr 10 (a % 256))):=rfl;rw[e,f,b0,b1,b2,b3];simp
theorem qH(a:Nat):∀ k,Bytes (pd a k)
 | 0=>fun b hb=>by simp[pd]at hb
 | k+1=>fun b hb=>by
  rw[pd,List.mem_append,List.mem_append]at hb;rcases hb with(hb | hb) | hb
  ·exact qH a k b hb
  ·split at hb
   ·simp at hb;omega
   ·simp at hb
  ·exact xz (Nat.mod_lt _ (by decide)) b hb
theorem lI(a:Nat)(ha:a<4294967296)(w:World)(hp:Pow w):
  Calls Tryz.prog 29 #[.int .u32 a] w fun e W'=>ia a w e W':=by
 obtain⟨i0,hi,hz0,hz1,hz2⟩:=info_parts Tryz.info5;have HAP:=hid AS;have HWS:=hid xy;have HGS:Hid (∀ e W,((∃ t,e=.returned (.string t)∧bn t=pd a 4)∧Below w.heap.size w W)→ia a w e W):=fun e W h=>by rw[Fy ha]at h;exact h
 have hgs:=hp.size;have HPW:Hid (∀ W,Below w.heap.size w W→Pow W):=fun W h=>hp.below hgs h
 clear hp;go_enter Tryz.func29,Tryz.ntmps29
 go_wp2_with fail
 go_loopw [3,5] (fun v3 v5 wr=>∃(k m c:Nat) (q:Option Addr),k≤4∧m≤4 * k∧v3=.slice q m c∧v5=.int .i64 (k:Int)∧Hid (m=(pd a k).length)∧Hid (wr.ownsRow w.heap.size 5 1 (.slice q m c) m ((pd a k).map (Value.int .u8)))∧Hid (Below w.heap.size w wr)) (fun _ v5 _=>(4 - intOf v5).toNat)
 case atStart=>exact⟨0,0,0,none,by omega,by omega,rfl,rfl,rfl,World.ownsRow_nil _ _ _ _,Below.refl _ _⟩
 case round =>
  obtain⟨k,m,c,q,hk,hmk,rfl,rfl,HM,HR,HB⟩:=hrel;have zj:=HB.out.size;obtain rfl | rfl | rfl | rfl | rfl:k=0∨k=1∨k=2∨k=3∨k=4:=by omega
  ·have HPN:Hid (pd a 1=pd a 0++[]++F.wr 10 (byt a 0)):=rfl
   have hb:byt a 0<256:=Nat.mod_lt _ (by decide)
   have hbz:((byt a 0:Nat):Int)=((a:Int) / 16777216) % 256:=by
    show((a / 16777216 % 256:Nat):Int)=_
    omega
   have hws:=HWS.out ⟨byt a 0,hb⟩;have hws':(F.wr 10 (byt a 0)).length≤3:=hws;obtain⟨y,hy⟩:∃ y,byt a 0=y:=⟨_,rfl⟩;have hmod:((a:Int) / 16777216) % 256=(y:Int):=by rw[←hbz,hy]
   have hwr:IntKind.u8.wrap ((a:Int) / 16777216)=(y:Int):=by rw[←hmod];simp[IntKind.wrap,IntKind.bits,IntKind.signed]
   rw[hy]at hb HPN hws';clear hy hbz hws HWS;have hm0:m=0:=by omega
   have HP:=hid (HPW.out _ HB.out);have HA:=hid (HAP.out w.heap.size m y c q (pd a 0) hb wr HP.out HB.out.size (by omega) HR.out);clear hm0
   go_wp2_with(go_at_call 53;refine HA.out.mono ?_;rintro e w4 ⟨⟨q4,c4,rfl,r4⟩,B4⟩)
   go_roundw
   case rel=>exact⟨1,_,c4,q4,by omega,by omega,rfl,by go_num,by show _=_;rw[HPN.out,List.length_append,List.length_append,HM.out];simp,by show World.ownsRow _ _ _ _ _ _ _;rw[HPN.out,List.append_nil];exact r4,HB.out.trans B4⟩
   case measure=>simp[intOf]
  ·have HPN:Hid (pd a 2=pd a 1++[46]++F.wr 10 (byt a 1)):=rfl
   have hb:byt a 1<256:=Nat.mod_lt _ (by decide)
   have hbz:((byt a 1:Nat):Int)=((a:Int) / 65536) % 256:=by
    show((a / 65536 % 256:Nat):Int)=_
    omega
   have hws:=HWS.out ⟨byt a 1,hb⟩;have hws':(F.wr 10 (byt a 1)).length≤3:=hws;obtain⟨y,hy⟩:∃ y,byt a 1=y:=⟨_,rfl⟩;have hmod:((a:Int) / 65536) % 256=(y:Int):=by rw[←hbz,hy]
   have hwr:IntKind.u8.wrap ((a:Int) / 65536)=(y:Int):=by rw[←hmod];simp[IntKind.wrap,IntKind.bits,IntKind.signed]
   rw[hy]at hb HPN hws';clear hy hbz hws HWS
   go_wp2_with(first
     | (at_builtin;refine wpList_append_own _ rfl _ _ 36 rfl w.heap.size 5 i0 (.int .u8 0) 1 1 Tryz.underlying36 hi hz0 hz1 hz2 rfl (by decide) _ _ _ rfl (HR.out.alloc _) ⟨wr.heap.size,0,none⟩ 1 1 [.int .u8 46] rfl rfl (ey _ _ _) (by simp[Value.oneCell']) (by unfold maxLen;omega) (by omega) (by simp;omega) ?_;intro v3 w3 r3 g3 _;obtain⟨a3,c3,rfl⟩:=cq r3;have HR3:Hid (w3.ownsRow w.heap.size 5 1 (.slice a3 (m+1) c3) (m+1) ((pd a 1++[46]).map (Value.int .u8))):=(by show World.ownsRow _ _ _ _ _ _ _;rw[List.map_append];exact r3);have HB3:=hid (below_grow (w1:=wr.alloc (.cells #[.int .u8 46] 5)) (HB.out.alloc HB.out.size _) (Nat.le_trans HB.out.size (by simp)) (HR.out.alloc _) g3);clear r3 g3)
     | (go_at_call 53;refine(HAP.out w.heap.size (m+1) y c3 a3 (pd a 1++[46]) hb w3 (HPW.out _ HB3.out) HB3.out.size (by omega) HR3.out).mono ?_;rintro e w4 ⟨⟨q4,c4,rfl,r4⟩,B4⟩))
   go_roundw
   case rel=>exact⟨2,_,c4,q4,by omega,by omega,rfl,by go_num,by show _=_;rw[HPN.out,List.length_append,List.length_append,HM.out];rfl,by show World.ownsRow _ _ _ _ _ _ _;rw[HPN.out];exact r4,HB3.out.trans B4⟩
   case measure=>simp[intOf]
  ·have HPN:Hid (pd a 3=pd a 2++[46]++F.wr 10 (byt a 2)):=rfl
   have hb:byt a 2<256:=Nat.mod_lt _ (by decide)
   have hbz:((byt a 2:Nat):Int)=((a:Int) / 256) % 256:=by
    show((a / 256 % 256:Nat):Int)=_
    omega
   have hws:=HWS.out ⟨byt a 2,hb⟩;have hws':(F.wr 10 (byt a 2)).length≤3:=hws;obtain⟨y,hy⟩:∃ y,byt a 2=y:=⟨_,rfl⟩;have hmod:((a:Int) / 256) % 256=(y:Int):=by rw[←hbz,hy]
   have hwr:IntKind.u8.wrap ((a:Int) / 256)=(y:Int):=by rw[←hmod];simp[IntKind.wrap,IntKind.bits,IntKind.signed]
   rw[hy]at hb HPN hws';clear hy hbz hws HWS
   go_wp2_with(first
     | (at_builtin;refine wpList_append_own _ rfl _ _ 36 rfl w.heap.size 5 i0 (.int .u8 0) 1 1 Tryz.underlying36 hi hz0 hz1 hz2 rfl (by decide) _ _ _ rfl (HR.out.alloc _) ⟨wr.heap.size,0,none⟩ 1 1 [.int .u8 46] rfl rfl (ey _ _ _) (by simp[Value.oneCell']) (by unfold maxLen;omega) (by omega) (by simp;omega) ?_;intro v3 w3 r3 g3 _;obtain⟨a3,c3,rfl⟩:=cq r3;have HR3:Hid (w3.ownsRow w.heap.size 5 1 (.slice a3 (m+1) c3) (m+1) ((pd a 2++[46]).map (Value.int .u8))):=(by show World.ownsRow _ _ _ _ _ _ _;rw[List.map_append];exact r3);have HB3:=hid (below_grow (w1:=wr.alloc (.cells #[.int .u8 46] 5)) (HB.out.alloc HB.out.size _) (Nat.le_trans HB.out.size (by simp)) (HR.out.alloc _) g3);clear r3 g3)
     | (go_at_call 53;refine(HAP.out w.heap.size (m+1) y c3 a3 (pd a 2++[46]) hb w3 (HPW.out _ HB3.out) HB3.out.size (by omega) HR3.out).mono ?_;rintro e w4 ⟨⟨q4,c4,rfl,r4⟩,B4⟩))
   go_roundw
   case rel=>exact⟨3,_,c4,q4,by omega,by omega,rfl,by go_num,by show _=_;rw[HPN.out,List.length_append,List.length_append,HM.out];rfl,by show World.ownsRow _ _ _ _ _ _ _;rw[HPN.out];exact r4,HB3.out.trans B4⟩
   case measure=>simp[intOf]
  ·have HPN:Hid (pd a 4=pd a 3++[46]++F.wr 10 (byt a 3)):=rfl
   have hb:byt a 3<256:=Nat.mod_lt _ (by decide)
   have hbz:((byt a 3:Nat):Int)=(a:Int) % 256:=by
    show((a / 1 % 256:Nat):Int)=_
    omega
   have hws:=HWS.out ⟨byt a 3,hb⟩;have hws':(F.wr 10 (byt a 3)).length≤3:=hws;obtain⟨y,hy⟩:∃ y,byt a 3=y:=⟨_,rfl⟩;have hmod:(a:Int) % 256=(y:Int):=by rw[←hbz,hy]
   have hwr:IntKind.u8.wrap (a:Int)=(y:Int):=by rw[←hmod];simp[IntKind.wrap,IntKind.bits,IntKind.signed]
   rw[hy]at hb HPN hws';clear hy hbz hws HWS
   go_wp2_with(first
     | (at_builtin;refine wpList_append_own _ rfl _ _ 36 rfl w.heap.size 5 i0 (.int .u8 0) 1 1 Tryz.underlying36 hi hz0 hz1 hz2 rfl (by decide) _ _ _ rfl (HR.out.alloc _) ⟨wr.heap.size,0,none⟩ 1 1 [.int .u8 46] rfl rfl (ey _ _ _) (by simp[Value.oneCell']) (by unfold maxLen;omega) (by omega) (by simp;omega) ?_;intro v3 w3 r3 g3 _;obtain⟨a3,c3,rfl⟩:=cq r3;have HR3:Hid (w3.ownsRow w.heap.size 5 1 (.slice a3 (m+1) c3) (m+1) ((pd a 3++[46]).map (Value.int .u8))):=(by show World.ownsRow _ _ _ _ _ _ _;rw[List.map_append];exact r3);have HB3:=hid (below_grow (w1:=wr.alloc (.cells #[.int .u8 46] 5)) (HB.out.alloc HB.out.size _) (Nat.le_trans HB.out.size (by simp)) (HR.out.alloc _) g3);clear r3 g3)
     | (go_at_call 53;refine(HAP.out w.heap.size (m+1) y c3 a3 (pd a 3++[46]) hb w3 (HPW.out _ HB3.out) HB3.out.size (by omega) HR3.out).mono ?_;rintro e w4 ⟨⟨q4,c4,rfl,r4⟩,B4⟩))
   go_roundw
   case rel=>exact⟨4,_,c4,q4,by omega,by omega,rfl,by go_num,by show _=_;rw[HPN.out,List.length_append,List.length_append,HM.out];rfl,by show World.ownsRow _ _ _ _ _ _ _;rw[HPN.out];exact r4,HB3.out.trans B4⟩
   case measure=>simp[intOf]
  ·obtain⟨t,hcv,htb⟩:=aO wr w.heap.size _ _ (pd a 4) HM.out (qH a 4) HR.out
   have HTB:=hid htb;clear htb HM HR HAP HWS HPW;go_wp2;go_ret;exact HGS.out _ _ ⟨⟨t,rfl,HTB.out⟩,HB.out⟩
end Go.Proofs.YtkekkbciiohbkaaGreatDoor.F
