/- Texts one behind the other: LI. -/
import Derived.Test.YtkekkbciiohbkaaGreatDoorZ24
import Derived.Test.YtkekkbciiohbkaaGreatDoorZ8
set_option maxRecDepth 100000
set_option maxHeartbeats 16000000
set_option linter.unusedVariables false
set_option linter.unnecessarySimpa false
namespace Go.Proofs.YtkekkbciiohbkaaGreatDoor.L
open Go.RowKit
theorem BS(W:World):(sizeOf (Tryz.prog.elem 58)).run Tryz.prog W=.ok 1 W:=by kernel_rfl
theorem Cp(L:List Int)(h:¬ 4≤L.length):dh L=false:=by
 unfold dh;apply decide_eq_false;intro e
 have:=congrArg List.length e;rw[List.length_take]at this;simp at this;omega
theorem Bm(t:ByteArray):(t.toList==[120,110,45,45])=decide (t=xn):=by
 rw[Bool.eq_iff_iff,beq_iff_eq,decide_eq_true_eq,Go.ByteArray.toList_eq]
 constructor
 ·intro h
  exact Go.WideShapes.bytes_inj h
 ·rintro rfl;rfl
theorem Fo(B:Nat)(v:Value)(L:List Int)(w:World)(hlen:L.length≤10000)(hb:Boxed w B 58 v)(hv:U.au w v L)(hcap:∀ a n c,v=.slice a n c→n≤c):
  Calls Tryz.prog 264 #[.pointer (some ⟨B,0,none⟩)] w fun e W'=>e=.returned (.bool (dh L))∧Below w.heap.size w W':=by
 obtain⟨a,c,rfl,hf⟩:=aF hv;have hc:=hb.cell;have hcp:=hcap _ _ _ rfl;by_cases h4:4≤L.length
 ·obtain⟨b,off,rfl,hcc⟩:=hf (by omega)
  have hsl:∀ W,(Instr.slice 58 (.slice (some ⟨b,off,none⟩) L.length c) none (some (.int .i64 4)) none).run Tryz.prog W=.ok (.slice (some ⟨b,off,none⟩) 4 c) W:=fun W=>by
   rw[run_slice_h W 58 (some ⟨b,off,none⟩) L.length c (by kernel_rfl) .i64 4 (by omega) (by omega),BS W];simp only[Result.andThen,sliced];split <;> simp[Addr.add]
  have hcv:(convert 58 9 (.slice (some ⟨b,off,none⟩) 4 c)).run Tryz.prog w=.ok (.string (runesBytes (L.take 4))) w :=
   run_convert_runes w 58 9 21 ⟨b,off,none⟩ 4 c L h4 Tryz.underlying58 Tryz.underlying21 Tryz.underlying9 (fun j hj=>by
     rw[Addr.add_lit,hcc j hj,List.getD_eq_getElem?_getD])
  have HP:Hid (dh L=decide (runesBytes (L.take 4)=xn)):=by
   show _=_
   unfold dh;exact decide_eq_decide.2 (EY _).symm
  obtain⟨t,ht⟩:∃ t,runesBytes (L.take 4)=t:=⟨_,rfl⟩;rw[ht]at hcv HP;obtain⟨R,hR⟩:∃ R,dh L=R:=⟨_,rfl⟩;rw[hR]at HP ⊢;obtain⟨n,hn⟩:∃ n,L.length=n:=⟨_,rfl⟩;rw[hn]at hc h4 hlen hsl hcp;have h4z:(4:Int)≤(n:Int):=by omega
  clear ht hR hn hb hv hf hcc hcap;go_enter Tryz.func264,Tryz.ntmps264
  go_wp2;go_ret;refine⟨?_,Below.refl _ _⟩;rw[HP.out,←Bm t];rfl
 ·have hcn:∃ z,L.length=z:=⟨_,rfl⟩
  rw[Cp L h4];obtain⟨n,hn⟩:=hcn;rw[hn]at hc h4 hlen;have h4z:¬ (4:Int)≤(n:Int):=by omega
  clear hn hb hv hf hcap hcp;go_enter Tryz.func264,Tryz.ntmps264
  go_wp2;go_ret;exact⟨rfl,Below.refl _ _⟩
def pt(b:Nat):Value:=.pointer (some ⟨b,0,none⟩)
def l5(Bl Bh Bf Bz:Nat):Array Value :=
 #[.int .u16 1,.func (.func 260) #[] #[pt Bl],.int .u16 2,.func (.func 262) #[] #[pt Bh,pt Bl],.int .u16 4,.func (.func 263) #[] #[pt Bh,pt Bf,pt Bz],
   .int .u16 8,.func (.func 264) #[] #[pt Bl],.int .u16 16,.func (.func 265) #[] #[pt Bl],.int .u16 32,.func (.func 267) #[] #[pt Bf],
   .int .u16 64,.func (.func 269) #[] #[pt Bl],.int .u16 128,.func (.func 271) #[] #[pt Bl]]
structure Qs(W:World)(g Bl Bh Bf Bz:Nat)(v:Value)(hy:Bool)(x y:Int):Prop where
 row:W.heap[g]? = some (.cells (l5 Bl Bh Bf Bz) 210 (0,0))
 l:Boxed W Bl 58 v
 h:Boxed W Bh 4 (.bool hy)
 f:Boxed W Bf 21 (.int .i32 x)
 z:Boxed W Bz 21 (.int .i32 y)
theorem tX(W:World):(sizeOf 210).run Tryz.prog W=.ok 2 W:=by kernel_rfl
theorem tK(W:World):(zeroValue 210).run Tryz.prog W=.ok (.agg #[.int .u16 0,.nilFunc]) W:=by kernel_rfl
structure nj(w W:World)(Bl Bh Bf Bz:Nat)(v:Value)(hy:Bool)(x y:Int):Prop where
 l:Boxed W Bl 58 v
 h:Boxed W Bh 4 (.bool hy)
 f:Boxed W Bf 21 (.int .i32 x)
 z:Boxed W Bz 21 (.int .i32 y)
 be:Below w.heap.size w W
theorem gi{W:World}{B:Nat}{t:TypeId}{v:Value}(h:Boxed W B t v):Boxed W.drew B t v:=h
theorem tA{w W:World}{n:Nat}(h:Below n w W):Below n w W.drew:=⟨h.os,h.tape,h.output,h.size,h.block⟩
theorem nj.new1{w W:World}{Bl Bh:Nat}{v:Value}{hy:Bool}{x y:Int}(hl:Boxed W Bl 58 v)(hh:Boxed W Bh 4 (.bool hy))(hB:Below w.heap.size w W):
  nj w ((W.alloc (.cells #[.int .i32 x] 21)).alloc (.cells #[.int .i32 y] 21)).drew Bl Bh W.heap.size (W.heap.size+1) v hy x y:=by
 have b1:=Boxed.new W 21 (.int .i32 x);have b2:=Boxed.new (W.alloc (.cells #[.int .i32 x] 21)) 21 (.int .i32 y);rw[World.size_alloc]at b2;exact⟨gi ((hl.alloc _).alloc _),gi ((hh.alloc _).alloc _),gi (b1.alloc _),gi b2,tA ((hB.alloc hB.size _).alloc (Nat.le_trans hB.size (by simp)) _)⟩
theorem nj.new2{w W:World}{Bl Bh:Nat}{v:Value}{hy:Bool}{x y:Int}(hl:Boxed W Bl 58 v)(hh:Boxed W Bh 4 (.bool hy))(hB:Below w.heap.size w W):
  nj w ((W.alloc (.cells #[.int .i32 y] 21)).alloc (.cells #[.int .i32 x] 21)).drew Bl Bh (W.heap.size+1) W.heap.size v hy x y :=
 let h:=nj.new1 (x:=y) (y:=x) hl hh hB
 ⟨h.l,h.h,h.z,h.f,h.be⟩
theorem nj.qs{w W:World}{Bl Bh Bf Bz:Nat}{v:Value}{hy:Bool}{x y:Int}(h:nj w W Bl Bh Bf Bz v hy x y):
  Qs (W.alloc (.cells (l5 Bl Bh Bf Bz) 210)) W.heap.size Bl Bh Bf Bz v hy x y :=
 ⟨World.alloc_heap_new W _,h.l.alloc _,h.h.alloc _,h.f.alloc _,h.z.alloc _⟩
theorem nB(v:Value)(hy:Bool)(L:List Int)(w:World)(hp:0<L.length)(hlen:L.length≤10000)(hv:U.au w v L):
  Calls Tryz.prog 211 #[v,.bool hy] w fun e W'=>(∃ g Bl Bh Bf Bz,e=.returned (.slice (some ⟨g,0,none⟩) 8 8)∧Qs W' g Bl Bh Bf Bz v hy (L[0]?.getD 0) (L[L.length - 1]?.getD 0))∧Below w.heap.size w W':=by
 obtain⟨a,c,rfl,hf⟩:=aF hv;obtain⟨b,off,rfl,hcc⟩:=hf hp;have h0:=hcc 0 hp;have h1:=hcc (L.length - 1) (by omega);obtain⟨x,hx⟩:∃ x,L[0]?.getD 0=x:=⟨_,rfl⟩;obtain⟨y,hyy⟩:∃ y,L[L.length - 1]?.getD 0=y:=⟨_,rfl⟩;rw[hx]at h0;rw[hyy]at h1;rw[hx,hyy];obtain⟨m,hm⟩:∃ m,L.length - 1=m:=⟨_,rfl⟩;obtain⟨n,hn⟩:∃ n,L.length=n:=⟨_,rfl⟩;have em:(n:Int) - 1=(m:Int):=by omega
 rw[hm]at h1;rw[hn]at hp hlen ⊢;have hlb:b<w.heap.size:=U.lt_of_cell h0;have hm1:m<n:=by omega
 rw[Nat.add_zero]at h0;clear hx hyy hm hn hv hf hcc;go_enter Tryz.func211,Tryz.ntmps211
 go_wp2_with fail;have hsz:((w.alloc (.cells #[.slice (some ⟨b,off,none⟩) n c] 58)).alloc (.cells #[.bool hy] 4)).heap.size=w.heap.size+2:=by simp only[World.size_alloc]
 have bl:Boxed ((w.alloc (.cells #[.slice (some ⟨b,off,none⟩) n c] 58)).alloc (.cells #[.bool hy] 4)) w.heap.size 58 (.slice (some ⟨b,off,none⟩) n c):=(Boxed.new w _ _).alloc _
 have bh:Boxed ((w.alloc (.cells #[.slice (some ⟨b,off,none⟩) n c] 58)).alloc (.cells #[.bool hy] 4)) (w.heap.size+1) 4 (.bool hy):=by
  have:=Boxed.new (w.alloc (.cells #[.slice (some ⟨b,off,none⟩) n c] 58)) 4 (.bool hy)
  rwa [World.size_alloc]at this
 have hB2:Below w.heap.size w ((w.alloc (.cells #[.slice (some ⟨b,off,none⟩) n c] 58)).alloc (.cells #[.bool hy] 4)):=((Below.refl _ w).alloc (Nat.le_refl _) _).alloc (by simp) _;obtain⟨w2,hw2⟩:∃ w2,((w.alloc (.cells #[.slice (some ⟨b,off,none⟩) n c] 58)).alloc (.cells #[.bool hy] 4))=w2:=⟨_,rfl⟩;rw[hw2]at hsz bl bh hB2 ⊢;have d0:w2.cell? ⟨b,off,none⟩=some (.int .i32 x):=(hB2.cell (p:=⟨b,off,none⟩) hlb).trans h0;have d1:w2.cell? ⟨b,off+m,none⟩=some (.int .i32 y):=(hB2.cell (p:=⟨b,off+m,none⟩) hlb).trans h1;have dl:=bl.cell;clear h0 h1 hw2;have HSZ:=hid hsz;clear hsz;have hnz:(0:Int)<(n:Int):=by omega
 have hwm:IntKind.i64.wrap (m:Int)=(m:Int):=by rw[IntKind.wrap_i64];omega
 have hll:w.heap.size<w2.heap.size:=by have:=HSZ.out;omega
 have hlb2:b<w2.heap.size:=by have:=HSZ.out;omega
 have ca:∀(o:Obj) (p:Addr) (z:Value),p.block<w2.heap.size→w2.cell? p=some z→(w2.alloc o).cell? p=some z:=fun o p z h1 h2=>(((Below.refl w2.heap.size w2).alloc (Nat.le_refl _) o).cell (p:=p) h1).trans h2
 have cb:∀(o o':Obj) (p:Addr) (z:Value),p.block<w2.heap.size→w2.cell? p=some z→((w2.alloc o).alloc o').cell? p=some z:=fun o o' p z h1 h2=>((((Below.refl w2.heap.size w2).alloc (Nat.le_refl _) o).alloc (by simp) o').cell (p:=p) h1).trans h2
 have la:∀ o,(w2.alloc o).cell? ⟨w.heap.size,0,none⟩=some (.slice (some ⟨b,off,none⟩) n c):=fun o=>ca o _ _ hll dl
 have lb:∀ o o',((w2.alloc o).alloc o').cell? ⟨w.heap.size,0,none⟩=some (.slice (some ⟨b,off,none⟩) n c):=fun o o'=>cb o o' _ _ hll dl
 have xa:∀ o,(w2.alloc o).cell? ⟨b,off,none⟩=some (.int .i32 x):=fun o=>ca o _ _ hlb2 d0
 have xb:∀ o o',((w2.alloc o).alloc o').cell? ⟨b,off,none⟩=some (.int .i32 x):=fun o o'=>cb o o' _ _ hlb2 d0
 have ya:∀ o,(w2.alloc o).cell? ⟨b,off+m,none⟩=some (.int .i32 y):=fun o=>ca o _ _ hlb2 d1
 have yb:∀ o o',((w2.alloc o).alloc o').cell? ⟨b,off+m,none⟩=some (.int .i32 y):=fun o o'=>cb o o' _ _ hlb2 d1
 have BL:=hid bl;have BH:=hid bh;have HB2:=hid hB2;clear ca cb bl bh hB2 hll hlb2
 go_region
 ·obtain⟨w3,hw3⟩:∃ w3,((w2.alloc (.cells #[.int .i32 x] 21)).alloc (.cells #[.int .i32 y] 21)).drew=w3:=⟨_,rfl⟩
  have hq:nj w w3 w.heap.size (w.heap.size+1) (w2.heap.size) (w2.heap.size+1) (.slice (some ⟨b,off,none⟩) n c) hy x y:=by
   rw[←hw3];exact nj.new1 BL.out BH.out HB2.out
  have HQ:=hid hq;rw[hw3]
  generalize w2.heap.size=Bf at HQ ⊢
  generalize w2.heap.size+1=Bz at HQ ⊢
  clear hw3 hq la lb xa xb ya yb d0 d1 dl
  go_wp2_with((refine D.eF rfl 207 8 _ rfl 210 Tryz.underlying207 2 tX _ tK (by omega) (by omega) (l5 w.heap.size (w.heap.size+1) Bf Bz) (by rfl) ?_))
  go_ret;exact⟨⟨w3.heap.size,_,_,_,_,rfl,HQ.out.qs⟩,HQ.out.be.alloc HQ.out.be.size _⟩
 ·obtain⟨w3,hw3⟩:∃ w3,((w2.alloc (.cells #[.int .i32 y] 21)).alloc (.cells #[.int .i32 x] 21)).drew=w3:=⟨_,rfl⟩
  have hq:nj w w3 w.heap.size (w.heap.size+1) (w2.heap.size+1) (w2.heap.size) (.slice (some ⟨b,off,none⟩) n c) hy x y:=by
   rw[←hw3];exact nj.new2 BL.out BH.out HB2.out
  have HQ:=hid hq;rw[hw3]
  generalize w2.heap.size+1=Bf at HQ ⊢
  generalize w2.heap.size=Bz at HQ ⊢
  clear hw3 hq la lb xa xb ya yb d0 d1 dl
  go_wp2_with((refine D.eF rfl 207 8 _ rfl 210 Tryz.underlying207 2 tX _ tK (by omega) (by omega) (l5 w.heap.size (w.heap.size+1) Bf Bz) (by rfl) ?_))
  go_ret;exact⟨⟨w3.heap.size,_,_,_,_,rfl,HQ.out.qs⟩,HQ.out.be.alloc HQ.out.be.size _⟩
end Go.Proofs.YtkekkbciiohbkaaGreatDoor.L
