/- Texts one behind the other: DC DD DG. -/
import Derived.Test.YtkekkbciiohbkaaGreatDoorZ6
set_option maxRecDepth 100000
set_option maxHeartbeats 16000000
set_option linter.unusedVariables false
set_option linter.unnecessarySimpa false
namespace Go.Proofs.YtkekkbciiohbkaaGreatDoor.D
open Go.RowKit Go.Lib Go.Sort Go.Shelf
def fnd(r:Int):Rw:=if r<768 then bM eK r else if r<1424 then bM eA r else if r<7680 then bM cL r else bM later r
theorem o6:rising eK=true:=by decide
theorem o8:rising eA=true:=by decide
theorem ny:rising cL=true:=by decide
theorem o7:rising later=true:=by decide
theorem BQ(g:Nat)(W:World):(Instr.sliceAt 240 (.pointer (some ⟨g,0,none⟩)) none none none).run Tryz.prog W=.ok (.slice (some ⟨g,0,none⟩) 19 19) W:=by
 have hl:Tryz.prog.arrayLen 240=19:=by kernel_rfl
 rw[run_sliceAt_array_all W 240 ⟨g,0,none⟩ (by kernel_rfl),hl];have hs:(sizeOf (Tryz.prog.elem 240)).run Tryz.prog W=.ok 8 W:=by kernel_rfl
 rw[hs];simp only[Result.andThen,slicedAt];rfl
theorem BP(g:Nat)(W:World):(Instr.sliceAt 244 (.pointer (some ⟨g,0,none⟩)) none none none).run Tryz.prog W=.ok (.slice (some ⟨g,0,none⟩) 24 24) W:=by
 have hl:Tryz.prog.arrayLen 244=24:=by kernel_rfl
 rw[run_sliceAt_array_all W 244 ⟨g,0,none⟩ (by kernel_rfl),hl];have hs:(sizeOf (Tryz.prog.elem 244)).run Tryz.prog W=.ok 8 W:=by kernel_rfl
 rw[hs];simp only[Result.andThen,slicedAt];rfl
theorem BN(g:Nat)(W:World):(Instr.sliceAt 246 (.pointer (some ⟨g,0,none⟩)) none none none).run Tryz.prog W=.ok (.slice (some ⟨g,0,none⟩) 15 15) W:=by
 have hl:Tryz.prog.arrayLen 246=15:=by kernel_rfl
 rw[run_sliceAt_array_all W 246 ⟨g,0,none⟩ (by kernel_rfl),hl];have hs:(sizeOf (Tryz.prog.elem 246)).run Tryz.prog W=.ok 8 W:=by kernel_rfl
 rw[hs];simp only[Result.andThen,slicedAt];rfl
theorem BM(g:Nat)(W:World):(Instr.sliceAt 248 (.pointer (some ⟨g,0,none⟩)) none none none).run Tryz.prog W=.ok (.slice (some ⟨g,0,none⟩) 30 30) W:=by
 have hl:Tryz.prog.arrayLen 248=30:=by kernel_rfl
 rw[run_sliceAt_array_all W 248 ⟨g,0,none⟩ (by kernel_rfl),hl];have hs:(sizeOf (Tryz.prog.elem 248)).run Tryz.prog W=.ok 8 W:=by kernel_rfl
 rw[hs];simp only[Result.andThen,slicedAt];rfl
theorem fw(r:Int)(w:World):
  Calls Tryz.prog 205 #[.int .i32 r] w fun e W'=>e=.returned (.agg (cd (fnd r)).toArray)∧Below w.heap.size w W':=by
 obtain⟨F,hF⟩:∃ F,F=fnd r:=⟨_,rfl⟩;have HF:=hid' hF;rw[←hF];clear hF;have HI:Hid ((Tryz.prog.info? 197).map (·.size)=some 8):=by show _=_;kernel_rfl
 by_cases h1:r<768
 ·have h1b:decide (r<768)=true:=by simpa using h1
  have HP:Hid (F=bM eK r):=by show _=_;rw[HF.out];unfold fnd;rw[if_pos h1]
  clear HF
  obtain⟨z,hz,hzs⟩:∃ z:Array Value,(∀ w,(zeroValue 240).run Tryz.prog w=.ok (.agg z) w)∧z.size=152:=by
   refine⟨(aW (List.replicate 19 (0,0,0,0,0,0,false,0))).toArray,?_,?_⟩
   ·exact(zero_of_info (P:=Tryz.prog) (t:=240) (n:=152) (by kernel_rfl)).1
   ·kernel_rfl
  obtain⟨c,hc⟩:∃ c:Array Value,c=(aW eK).toArray:=⟨_,rfl⟩;have HC:=hid' hc;have HCI:Hid ((Tryz.prog.info? 240).map (·.size)=some c.size):=by show _=_;rw[hc];kernel_rfl
  have HCS:Hid (z.size=c.size):=by show _=_;rw[hzs,hc];kernel_rfl
  have HCO:Hid (c.all (·.oneCell')=true):=by show _=_;rw[hc];kernel_rfl
  have hcall:=wm;rw[←hc]at hcall;have HCALL:=hid' hcall;have hsl:=BQ;clear hc hzs hcall;go_enter Tryz.func205,Tryz.ntmps205
  go_wp2_with fail;refine(HCALL.out _).mono ?_;rintro e w1 ⟨rfl,hB1⟩
  have hcell1:w1.heap[w.heap.size]? = some (.cells #[.int .i32 0,.int .i32 0,.int .u8 0,.int .u8 0,.int .u8 0,.int .u8 0,.bool false,.int .u8 0] 197):=by
   rw[hB1.block _ (by simp)];exact heap_alloc_last w _
  have hBw:Below w.heap.size w w1:=((Below.refl _ w).alloc (Nat.le_refl _) _).trans (hB1.mono (by simp));have hsz1:w.heap.size+1≤w1.heap.size:=by have:=hB1.size;simpa using this
  have HCELL:=hid' hcell1;have HBW:=hid' hBw;clear hcell1 hBw hB1
  go_wp2_with((refine wpList_store_row rfl 240 (.tmp 3) (.tmp 10) rfl w1.heap.size c rfl rfl 240 z (by exact heap_alloc_last w1 _) (by exact HCI.out) (by exact HCS.out) (by exact HCO.out) (wpList_nil ?_);rw[World.setRow_alloc_new]))
  refine(dY w1.heap.size 19 eK r _ (by decide) o6 ⟨240,by rw[←HC.out];exact heap_alloc_last w1 _⟩).mono ?_;rw[←HP.out];rintro e w2 ⟨rfl,hB2⟩
  have hcell2:w2.heap[w.heap.size]? = some (.cells #[.int .i32 0,.int .i32 0,.int .u8 0,.int .u8 0,.int .u8 0,.int .u8 0,.bool false,.int .u8 0] 197):=by
   rw[hB2.block _ (by simp;omega),Below.heap_alloc _ _ _ (by omega)];exact HCELL.out
  have hBw2:Below w.heap.size w w2:=(HBW.out.alloc HBW.out.size _).trans (hB2.mono (by simp;omega));obtain⟨cs,hcs⟩:∃ cs:Array Value,cs=(cd F).toArray:=⟨_,rfl⟩;have HS8:Hid (cs.size=8):=by show _=_;rw[hcs];rfl
  have HO8:Hid (cs.all (·.oneCell')=true):=by show _=_;rw[hcs];kernel_rfl
  rw[←hcs];have HCELL2:=hid' hcell2;have HEQ:=hid' hcs;have HBW2:=hid' hBw2;clear hcell2 hBw2 hcs hB2
  go_wp2_with((refine wpList_store_row rfl 197 (.tmp 2) (.tmp 13) rfl w.heap.size cs rfl rfl 197 _ (by exact HCELL2.out) (by rw[HS8.out];exact HI.out) (by rw[HS8.out];rfl) (by exact HO8.out) (wpList_nil ?_)))
  exact bodyPost_ret (results_cell_row Tryz.results205 _ _ w.heap.size 197 cs (0,0) _ rfl (setRow_heap _ _ _ cs 197 (0,0) HCELL2.out) Tryz.underlying197 rfl (by rw[HS8.out];exact HI.out)) rfl ⟨by rw[HEQ.out],cW HBW2.out (Nat.le_refl _)⟩
 have h1b:decide (r<768)=false:=by simpa using h1
 by_cases h2:r<1424
 ·have h2b:decide (r<1424)=true:=by simpa using h2
  have HP:Hid (F=bM eA r):=by show _=_;rw[HF.out];unfold fnd;rw[if_neg h1,if_pos h2]
  clear HF
  obtain⟨z,hz,hzs⟩:∃ z:Array Value,(∀ w,(zeroValue 244).run Tryz.prog w=.ok (.agg z) w)∧z.size=192:=by
   refine⟨(aW (List.replicate 24 (0,0,0,0,0,0,false,0))).toArray,?_,?_⟩
   ·exact(zero_of_info (P:=Tryz.prog) (t:=244) (n:=192) (by kernel_rfl)).1
   ·kernel_rfl
  obtain⟨c,hc⟩:∃ c:Array Value,c=(aW eA).toArray:=⟨_,rfl⟩;have HC:=hid' hc;have HCI:Hid ((Tryz.prog.info? 244).map (·.size)=some c.size):=by show _=_;rw[hc];kernel_rfl
  have HCS:Hid (z.size=c.size):=by show _=_;rw[hzs,hc];kernel_rfl
  have HCO:Hid (c.all (·.oneCell')=true):=by show _=_;rw[hc];kernel_rfl
  have hcall:=wG;rw[←hc]at hcall;have HCALL:=hid' hcall;have hsl:=BP;clear hc hzs hcall;go_enter Tryz.func205,Tryz.ntmps205
  go_wp2_with fail;refine(HCALL.out _).mono ?_;rintro e w1 ⟨rfl,hB1⟩
  have hcell1:w1.heap[w.heap.size]? = some (.cells #[.int .i32 0,.int .i32 0,.int .u8 0,.int .u8 0,.int .u8 0,.int .u8 0,.bool false,.int .u8 0] 197):=by
   rw[hB1.block _ (by simp)];exact heap_alloc_last w _
  have hBw:Below w.heap.size w w1:=((Below.refl _ w).alloc (Nat.le_refl _) _).trans (hB1.mono (by simp));have hsz1:w.heap.size+1≤w1.heap.size:=by have:=hB1.size;simpa using this
  have HCELL:=hid' hcell1;have HBW:=hid' hBw;clear hcell1 hBw hB1
  go_wp2_with((refine wpList_store_row rfl 244 (.tmp 4) (.tmp 17) rfl w1.heap.size c rfl rfl 244 z (by exact heap_alloc_last w1 _) (by exact HCI.out) (by exact HCS.out) (by exact HCO.out) (wpList_nil ?_);rw[World.setRow_alloc_new]))
  refine(dY w1.heap.size 24 eA r _ (by decide) o8 ⟨244,by rw[←HC.out];exact heap_alloc_last w1 _⟩).mono ?_;rw[←HP.out];rintro e w2 ⟨rfl,hB2⟩
  have hcell2:w2.heap[w.heap.size]? = some (.cells #[.int .i32 0,.int .i32 0,.int .u8 0,.int .u8 0,.int .u8 0,.int .u8 0,.bool false,.int .u8 0] 197):=by
   rw[hB2.block _ (by simp;omega),Below.heap_alloc _ _ _ (by omega)];exact HCELL.out
  have hBw2:Below w.heap.size w w2:=(HBW.out.alloc HBW.out.size _).trans (hB2.mono (by simp;omega));obtain⟨cs,hcs⟩:∃ cs:Array Value,cs=(cd F).toArray:=⟨_,rfl⟩;have HS8:Hid (cs.size=8):=by show _=_;rw[hcs];rfl
  have HO8:Hid (cs.all (·.oneCell')=true):=by show _=_;rw[hcs];kernel_rfl
  rw[←hcs];have HCELL2:=hid' hcell2;have HEQ:=hid' hcs;have HBW2:=hid' hBw2;clear hcell2 hBw2 hcs hB2
  go_wp2_with((refine wpList_store_row rfl 197 (.tmp 2) (.tmp 20) rfl w.heap.size cs rfl rfl 197 _ (by exact HCELL2.out) (by rw[HS8.out];exact HI.out) (by rw[HS8.out];rfl) (by exact HO8.out) (wpList_nil ?_)))
  exact bodyPost_ret (results_cell_row Tryz.results205 _ _ w.heap.size 197 cs (0,0) _ rfl (setRow_heap _ _ _ cs 197 (0,0) HCELL2.out) Tryz.underlying197 rfl (by rw[HS8.out];exact HI.out)) rfl ⟨by rw[HEQ.out],cW HBW2.out (Nat.le_refl _)⟩
 have h2b:decide (r<1424)=false:=by simpa using h2
 by_cases h3:r<7680
 ·have h3b:decide (r<7680)=true:=by simpa using h3
  have HP:Hid (F=bM cL r):=by show _=_;rw[HF.out];unfold fnd;rw[if_neg h1,if_neg h2,if_pos h3]
  clear HF
  obtain⟨z,hz,hzs⟩:∃ z:Array Value,(∀ w,(zeroValue 246).run Tryz.prog w=.ok (.agg z) w)∧z.size=120:=by
   refine⟨(aW (List.replicate 15 (0,0,0,0,0,0,false,0))).toArray,?_,?_⟩
   ·exact(zero_of_info (P:=Tryz.prog) (t:=246) (n:=120) (by kernel_rfl)).1
   ·kernel_rfl
  obtain⟨c,hc⟩:∃ c:Array Value,c=(aW cL).toArray:=⟨_,rfl⟩;have HC:=hid' hc;have HCI:Hid ((Tryz.prog.info? 246).map (·.size)=some c.size):=by show _=_;rw[hc];kernel_rfl
  have HCS:Hid (z.size=c.size):=by show _=_;rw[hzs,hc];kernel_rfl
  have HCO:Hid (c.all (·.oneCell')=true):=by show _=_;rw[hc];kernel_rfl
  have hcall:=s8;rw[←hc]at hcall;have HCALL:=hid' hcall;have hsl:=BN;clear hc hzs hcall;go_enter Tryz.func205,Tryz.ntmps205
  go_wp2_with fail;refine(HCALL.out _).mono ?_;rintro e w1 ⟨rfl,hB1⟩
  have hcell1:w1.heap[w.heap.size]? = some (.cells #[.int .i32 0,.int .i32 0,.int .u8 0,.int .u8 0,.int .u8 0,.int .u8 0,.bool false,.int .u8 0] 197):=by
   rw[hB1.block _ (by simp)];exact heap_alloc_last w _
  have hBw:Below w.heap.size w w1:=((Below.refl _ w).alloc (Nat.le_refl _) _).trans (hB1.mono (by simp));have hsz1:w.heap.size+1≤w1.heap.size:=by have:=hB1.size;simpa using this
  have HCELL:=hid' hcell1;have HBW:=hid' hBw;clear hcell1 hBw hB1
  go_wp2_with((refine wpList_store_row rfl 246 (.tmp 5) (.tmp 24) rfl w1.heap.size c rfl rfl 246 z (by exact heap_alloc_last w1 _) (by exact HCI.out) (by exact HCS.out) (by exact HCO.out) (wpList_nil ?_);rw[World.setRow_alloc_new]))
  refine(dY w1.heap.size 15 cL r _ (by decide) ny ⟨246,by rw[←HC.out];exact heap_alloc_last w1 _⟩).mono ?_;rw[←HP.out];rintro e w2 ⟨rfl,hB2⟩
  have hcell2:w2.heap[w.heap.size]? = some (.cells #[.int .i32 0,.int .i32 0,.int .u8 0,.int .u8 0,.int .u8 0,.int .u8 0,.bool false,.int .u8 0] 197):=by
   rw[hB2.block _ (by simp;omega),Below.heap_alloc _ _ _ (by omega)];exact HCELL.out
  have hBw2:Below w.heap.size w w2:=(HBW.out.alloc HBW.out.size _).trans (hB2.mono (by simp;omega));obtain⟨cs,hcs⟩:∃ cs:Array Value,cs=(cd F).toArray:=⟨_,rfl⟩;have HS8:Hid (cs.size=8):=by show _=_;rw[hcs];rfl
  have HO8:Hid (cs.all (·.oneCell')=true):=by show _=_;rw[hcs];kernel_rfl
  rw[←hcs];have HCELL2:=hid' hcell2;have HEQ:=hid' hcs;have HBW2:=hid' hBw2;clear hcell2 hBw2 hcs hB2
  go_wp2_with((refine wpList_store_row rfl 197 (.tmp 2) (.tmp 27) rfl w.heap.size cs rfl rfl 197 _ (by exact HCELL2.out) (by rw[HS8.out];exact HI.out) (by rw[HS8.out];rfl) (by exact HO8.out) (wpList_nil ?_)))
  exact bodyPost_ret (results_cell_row Tryz.results205 _ _ w.heap.size 197 cs (0,0) _ rfl (setRow_heap _ _ _ cs 197 (0,0) HCELL2.out) Tryz.underlying197 rfl (by rw[HS8.out];exact HI.out)) rfl ⟨by rw[HEQ.out],cW HBW2.out (Nat.le_refl _)⟩
 have h3b:decide (r<7680)=false:=by simpa using h3
 have HP:Hid (F=bM later r):=by show _=_;rw[HF.out];unfold fnd;rw[if_neg h1,if_neg h2,if_neg h3]
 clear HF
 obtain⟨z,hz,hzs⟩:∃ z:Array Value,(∀ w,(zeroValue 248).run Tryz.prog w=.ok (.agg z) w)∧z.size=240:=by
  refine⟨(aW (List.replicate 30 (0,0,0,0,0,0,false,0))).toArray,?_,?_⟩
  ·exact(zero_of_info (P:=Tryz.prog) (t:=248) (n:=240) (by kernel_rfl)).1
  ·kernel_rfl
 obtain⟨c,hc⟩:∃ c:Array Value,c=(aW later).toArray:=⟨_,rfl⟩;have HC:=hid' hc;have HCI:Hid ((Tryz.prog.info? 248).map (·.size)=some c.size):=by show _=_;rw[hc];kernel_rfl
 have HCS:Hid (z.size=c.size):=by show _=_;rw[hzs,hc];kernel_rfl
 have HCO:Hid (c.all (·.oneCell')=true):=by show _=_;rw[hc];kernel_rfl
 have hcall:=wo;rw[←hc]at hcall;have HCALL:=hid' hcall;have hsl:=BM;clear hc hzs hcall;go_enter Tryz.func205,Tryz.ntmps205
 go_wp2_with fail;refine(HCALL.out _).mono ?_;rintro e w1 ⟨rfl,hB1⟩
 have hcell1:w1.heap[w.heap.size]? = some (.cells #[.int .i32 0,.int .i32 0,.int .u8 0,.int .u8 0,.int .u8 0,.int .u8 0,.bool false,.int .u8 0] 197):=by
  rw[hB1.block _ (by simp)];exact heap_alloc_last w _
 have hBw:Below w.heap.size w w1:=((Below.refl _ w).alloc (Nat.le_refl _) _).trans (hB1.mono (by simp));have hsz1:w.heap.size+1≤w1.heap.size:=by have:=hB1.size;simpa using this
 have HCELL:=hid' hcell1;have HBW:=hid' hBw;clear hcell1 hBw hB1
 go_wp2_with((refine wpList_store_row rfl 248 (.tmp 6) (.tmp 28) rfl w1.heap.size c rfl rfl 248 z (by exact heap_alloc_last w1 _) (by exact HCI.out) (by exact HCS.out) (by exact HCO.out) (wpList_nil ?_);rw[World.setRow_alloc_new]))
 refine(dY w1.heap.size 30 later r _ (by decide) o7 ⟨248,by rw[←HC.out];exact heap_alloc_last w1 _⟩).mono ?_;rw[←HP.out];rintro e w2 ⟨rfl,hB2⟩
 have hcell2:w2.heap[w.heap.size]? = some (.cells #[.int .i32 0,.int .i32 0,.int .u8 0,.int .u8 0,.int .u8 0,.int .u8 0,.bool false,.int .u8 0] 197):=by
  rw[hB2.block _ (by simp;omega),Below.heap_alloc _ _ _ (by omega)];exact HCELL.out
 have hBw2:Below w.heap.size w w2:=(HBW.out.alloc HBW.out.size _).trans (hB2.mono (by simp;omega));obtain⟨cs,hcs⟩:∃ cs:Array Value,cs=(cd F).toArray:=⟨_,rfl⟩;have HS8:Hid (cs.size=8):=by show _=_;rw[hcs];rfl
 have HO8:Hid (cs.all (·.oneCell')=true):=by show _=_;rw[hcs];kernel_rfl
 rw[←hcs];have HCELL2:=hid' hcell2;have HEQ:=hid' hcs;have HBW2:=hid' hBw2;clear hcell2 hBw2 hcs hB2
 go_wp2_with((refine wpList_store_row rfl 197 (.tmp 2) (.tmp 31) rfl w.heap.size cs rfl rfl 197 _ (by exact HCELL2.out) (by rw[HS8.out];exact HI.out) (by rw[HS8.out];rfl) (by exact HO8.out) (wpList_nil ?_)))
 exact bodyPost_ret (results_cell_row Tryz.results205 _ _ w.heap.size 197 cs (0,0) _ rfl (setRow_heap _ _ _ cs 197 (0,0) HCELL2.out) Tryz.underlying197 rfl (by rw[HS8.out];exact HI.out)) rfl ⟨by rw[HEQ.out],cW HBW2.out (Nat.le_refl _)⟩
theorem lN(r:Int)(w:World):
  Calls Tryz.prog 155 #[.int .i32 r] w fun e W'=>e=.returned (.int .u8 (fnd r).2.2.1)∧Below w.heap.size w W':=by
 obtain⟨⟨x0,x1,x2,x3,x4,x5,x6,x7⟩,hx⟩:∃ x,x=fnd r:=⟨_,rfl⟩;have hcall:=fw r;rw[←hx]at hcall ⊢;have HC:=hid' hcall;clear hcall hx;have hf:∀ W:World,(Instr.field 197 (.agg #[.int .i32 x0,.int .i32 x1,.int .u8 x2,.int .u8 x3,.int .u8 x4,.int .u8 x5,.bool x6,.int .u8 x7]) 2).run Tryz.prog W=.ok (.int .u8 x2) W:=fun W=>by kernel_rfl
 go_enter Tryz.func155,Tryz.ntmps155
 go_wp2_with fail;refine(HC.out _).mono ?_;simp only[cd];rintro e w1 ⟨rfl,hB1⟩
 go_wp2;go_ret;exact⟨rfl,hB1⟩
theorem mW(r:Int)(w:World):
  Calls Tryz.prog 278 #[.int .i32 r] w fun e W'=>e=.returned (.int .u8 (fnd r).2.2.2.2.1)∧Below w.heap.size w W':=by
 obtain⟨⟨x0,x1,x2,x3,x4,x5,x6,x7⟩,hx⟩:∃ x,x=fnd r:=⟨_,rfl⟩;have hcall:=fw r;rw[←hx]at hcall ⊢;have HC:=hid' hcall;clear hcall hx;have hf:∀ W:World,(Instr.field 197 (.agg #[.int .i32 x0,.int .i32 x1,.int .u8 x2,.int .u8 x3,.int .u8 x4,.int .u8 x5,.bool x6,.int .u8 x7]) 4).run Tryz.prog W=.ok (.int .u8 x4) W:=fun W=>by kernel_rfl
 go_enter Tryz.func278,Tryz.ntmps278
 go_wp2_with fail;refine(HC.out _).mono ?_;simp only[cd];rintro e w1 ⟨rfl,hB1⟩
 go_wp2;go_ret;exact⟨rfl,hB1⟩
theorem rq(r:Int)(w:World):
  Calls Tryz.prog 314 #[.int .i32 r] w fun e W'=>e=.returned (.int .u8 (fnd r).2.2.2.2.2.2.2)∧Below w.heap.size w W':=by
 obtain⟨⟨x0,x1,x2,x3,x4,x5,x6,x7⟩,hx⟩:∃ x,x=fnd r:=⟨_,rfl⟩;have hcall:=fw r;rw[←hx]at hcall ⊢;have HC:=hid' hcall;clear hcall hx;have hf:∀ W:World,(Instr.field 197 (.agg #[.int .i32 x0,.int .i32 x1,.int .u8 x2,.int .u8 x3,.int .u8 x4,.int .u8 x5,.bool x6,.int .u8 x7]) 7).run Tryz.prog W=.ok (.int .u8 x7) W:=fun W=>by kernel_rfl
 go_enter Tryz.func314,Tryz.ntmps314
 go_wp2_with fail;refine(HC.out _).mono ?_;simp only[cd];rintro e w1 ⟨rfl,hB1⟩
 go_wp2;go_ret;exact⟨rfl,hB1⟩
theorem oG(r:Int)(w:World):
  Calls Tryz.prog 256 #[.int .i32 r] w fun e W'=>e=.returned (.int .u8 (fnd r).2.2.2.2.2.1)∧Below w.heap.size w W':=by
 obtain⟨⟨x0,x1,x2,x3,x4,x5,x6,x7⟩,hx⟩:∃ x,x=fnd r:=⟨_,rfl⟩;have hcall:=fw r;rw[←hx]at hcall ⊢;have HC:=hid' hcall;clear hcall hx;have hf:∀ W:World,(Instr.field 197 (.agg #[.int .i32 x0,.int .i32 x1,.int .u8 x2,.int .u8 x3,.int .u8 x4,.int .u8 x5,.bool x6,.int .u8 x7]) 5).run Tryz.prog W=.ok (.int .u8 x5) W:=fun W=>by kernel_rfl
 go_enter Tryz.func256,Tryz.ntmps256
 go_wp2_with fail;refine(HC.out _).mono ?_;simp only[cd];rintro e w1 ⟨rfl,hB1⟩
 go_wp2;go_ret;exact⟨rfl,hB1⟩
theorem zx(r:Int)(w:World):
  Calls Tryz.prog 268 #[.int .i32 r] w fun e W'=>e=.returned (.bool (fnd r).2.2.2.2.2.2.1)∧Below w.heap.size w W':=by
 obtain⟨⟨x0,x1,x2,x3,x4,x5,x6,x7⟩,hx⟩:∃ x,x=fnd r:=⟨_,rfl⟩;have hcall:=fw r;rw[←hx]at hcall ⊢;have HC:=hid' hcall;clear hcall hx;have hf:∀ W:World,(Instr.field 197 (.agg #[.int .i32 x0,.int .i32 x1,.int .u8 x2,.int .u8 x3,.int .u8 x4,.int .u8 x5,.bool x6,.int .u8 x7]) 6).run Tryz.prog W=.ok (.bool x6) W:=fun W=>by kernel_rfl
 go_enter Tryz.func268,Tryz.ntmps268
 go_wp2_with fail;refine(HC.out _).mono ?_;simp only[cd];rintro e w1 ⟨rfl,hB1⟩
 go_wp2;go_ret;exact⟨rfl,hB1⟩
def au(w:World)(v:Value)(zs:List Int):Prop :=
 ∃ a cap,v=.slice a zs.length cap∧((a=none→cap=0)∧zs.length≤cap)∧(0<zs.length→∃ b,a=some ⟨b,0,none⟩∧w.heap[b]? = some (.cells (zs.map (Value.int .i32)).toArray 21 (0,0)))
theorem au.below{A B:World}{n:Nat}(h:Below n A B)(hn:A.heap.size≤n){v:Value}{l:List Int}:au A v l→au B v l
 | ⟨a,cap,e,hc,f⟩=>⟨a,cap,e,hc,fun hp=>by
     obtain⟨b,e2,g⟩:=f hp
     exact⟨b,e2,(h.block b (Nat.lt_of_lt_of_le (Array.getElem?_eq_some_iff.1 g).1 hn)).trans g⟩⟩
theorem au.nil(w:World):au w (.slice none 0 0) []:=⟨none,0,rfl,⟨fun _=>rfl,Nat.le_refl _⟩,fun h=>by simp at h⟩
theorem au.new1(w:World)(a:Int):au (w.alloc (.cells #[.int .i32 a] 21)) (.slice (some ⟨w.heap.size,0,none⟩) 1 1) [a] :=
 ⟨_,1,rfl,⟨(fun h=>by cases h),Nat.le_refl _⟩,fun _=>⟨w.heap.size,rfl,heap_alloc_last w _⟩⟩
theorem au.new2(w:World)(a b:Int):au (w.alloc (.cells #[.int .i32 a,.int .i32 b] 21)) (.slice (some ⟨w.heap.size,0,none⟩) 2 2) [a,b] :=
 ⟨_,2,rfl,⟨(fun h=>by cases h),Nat.le_refl _⟩,fun _=>⟨w.heap.size,rfl,heap_alloc_last w _⟩⟩
def Ans(l:List Int)(w:World)(e:Ending)(W':World):Prop:=(∃ v,e=.returned v∧au W' v l)∧Below w.heap.size w W'
theorem Ans.nil{l:List Int}{w W':World}(h:l=[])(hb:Below w.heap.size w W'):Ans l w (.returned (.slice none 0 0)) W':=by
 subst h;exact⟨⟨_,rfl,au.nil _⟩,hb⟩
theorem Ans.one{l:List Int}{w W:World}{a:Int}(h:l=[a])(hb:Below w.heap.size w W):Ans l w (.returned (.slice (some ⟨W.heap.size,0,none⟩) 1 1)) (W.alloc (.cells #[.int .i32 a] 21)):=by
 subst h;exact⟨⟨_,rfl,au.new1 _ _⟩,hb.alloc hb.size _⟩
theorem Ans.two{l:List Int}{w W:World}{a b:Int}(h:l=[a,b])(hb:Below w.heap.size w W):Ans l w (.returned (.slice (some ⟨W.heap.size,0,none⟩) 2 2)) (W.alloc (.cells #[.int .i32 a,.int .i32 b] 21)):=by
 subst h;exact⟨⟨_,rfl,au.new2 _ _ _⟩,hb.alloc hb.size _⟩
def uV:List (Int×Int):=[(65,32),(192,32),(216,32),(913,32),(931,32),(1040,32),(178,-128),(904,37),(910,63),(1029,80),(65296,-65248),(65345,-65248),(65313,-65216),(66560,40)]
def jI(r:Int):Int:=(uV.lookup r).getD 0
def kD:List (Int×List Int):=[(170,[97]),(185,[49]),(186,[111]),(376,[255]),(469,[470]),(902,[940]),(908,[972]),(1025,[1105]),(1032,[1112]),(7776,[7777]),(7778,[7779]),(7784,[7785]),(7838,[115,115]),(8486,[969]),(8490,[107]),(8491,[229]),(12290,[46]),(65294,[46]),(65377,[46]),(64257,[102,105]),(65285,[37]),(65293,[45]),(65295,[47])]
def inst(r:Int):List Int:=(kD.lookup r).getD []
def sgl(r:Int):Int:=(([(8486,937),(8490,75),(8491,197)]:List (Int×Int)).lookup r).getD 0
theorem lQ(r:Int)(w:World):Calls Tryz.prog 308 #[.int .i32 r] w fun e W'=>e=.returned (.int .i32 (sgl r))∧W'=w:=by
 obtain⟨L,hL⟩:∃ L,L=sgl r:=⟨_,rfl⟩;have HL:=hid' hL;rw[←hL];clear hL;go_enter Tryz.func308,Tryz.ntmps308
 go_wp2
 all_goals go_ret
 all_goals refine⟨?_,rfl⟩
 all_goals rw[HL.out]
 all_goals clear HL
 all_goals first | (rename_i h;obtain rfl:=eq_of_beq h;rfl) | (simp[sgl,List.lookup, *];done)
def z3:Tri:=(0,0,0)
def dL:List Tri→Bool
 | x::y::l=>decide (x.1<y.1)&&dL (y::l)
 | _=>true
theorem fK{x:Tri}{l:List Tri}(h:dL (x::l)=true):dL l=true:=by
 cases l with
 | nil=>rfl
 | cons y l=>simp only[dL,Bool.and_eq_true]at h;exact h.2
theorem gA:∀ {x:Tri} {l:List Tri},dL (x::l)=true→∀ y∈l,x.1<y.1
 | x,[],_,y,hy=>by simp at hy
 | x,z::l,h,y,hy=>by
  have ht:=fK h;simp only[dL,Bool.and_eq_true,decide_eq_true_eq]at h;rcases List.mem_cons.1 hy with rfl | hy
  ·exact h.1
  ·have:=gA ht y hy
   omega
def bH(d:List Tri)(r:Int):Nat:=d.countP (fun x=>!decide (r≤x.1))
theorem xr(d:List Tri)(r:Int):bH d r≤d.length:=List.countP_le_length
theorem rL:∀(d:List Tri) (r:Int),dL d=true →
  d.find? (fun x=>x.1==r)=if h:bH d r<d.length then (if (d[bH d r]).1=r then some (d[bH d r]) else none) else none
 | [],r,_=>by simp[bH]
 | x::l,r,h=>by
  have ht:=fK h;have ha:=gA h;by_cases hx:r≤x.1
  ·have h0:bH (x::l) r=0:=by
    unfold bH;rw[List.countP_eq_zero];intro y hy
    rcases List.mem_cons.1 hy with rfl | hy
    ·simpa using hx
    ·have:=ha y hy
     have:r≤y.1:=by omega
     simpa using this
   have hl:bH (x::l) r<(x::l).length:=by rw[h0];simp
   rw[dif_pos hl];have he:(x::l)[bH (x::l) r]=x:=by simp[h0]
   rw[he];by_cases hlo:x.1=r
   ·rw[if_pos hlo,List.find?_cons_of_pos (by simpa using hlo)]
   ·rw[if_neg hlo,List.find?_eq_none]
    intro y hy
    rcases List.mem_cons.1 hy with rfl | hy
    ·simpa using hlo
    ·have:=ha y hy
     simp;omega
  ·have h1:bH (x::l) r=bH l r+1:=by
    unfold bH;rw[List.countP_cons_of_pos (by simpa using hx)]
   rw[List.find?_cons_of_neg (by simp;omega),rL l r ht];by_cases hl:bH l r<l.length
   ·have hl':bH (x::l) r<(x::l).length:=by rw[h1];simpa using hl
    have he:(x::l)[bH (x::l) r]=l[bH l r]:=by simp[h1]
    rw[dif_pos hl,dif_pos hl',he]
   ·rw[dif_neg hl,dif_neg (by rw[h1];simpa using hl)]
theorem sU{d:List Tri}{r:Int}(hd:dL d=true){a b:Nat}(hab:a≤b)(hb:b<d.length)(h:decide (r≤(d[a]?.getD z3).1)=true):decide (r≤(d[b]?.getD z3).1)=true:=by
 induction d generalizing a b with
 | nil=>simp at hb
 | cons x l ih =>
  have ht:=fK hd;rcases b with _ | b
  ·obtain rfl:a=0:=by omega
   exact h
  ·rcases a with _ | a
   ·have hb':b<l.length:=by simpa using hb
    have:=gA hd (l[b]) (List.getElem_mem hb');simp only[List.getElem?_cons_zero,Option.getD_some,decide_eq_true_eq,List.getElem?_cons_succ,List.getElem?_eq_getElem hb']at h ⊢;omega
   ·simp only[List.getElem?_cons_succ]at h ⊢
    exact ih ht (by omega) (by simpa using hb) h
theorem nH(d:List Tri)(r:Int):(List.range d.length).countP (fun i=>!decide (r≤(d[i]?.getD z3).1))=bH d r:=by
 have:(List.range d.length).map (fun i=>d[i]?.getD z3)=d:=by
  apply List.ext_getElem
  ·simp
  ·intro i h1 h2
   simp[List.getElem?_eq_getElem h2]
 unfold bH
 conv=>rhs;rw[←this,List.countP_map]
 rfl
theorem wL(l:List Tri):(cZ l).length=l.length * 3:=by
 induction l with
 | nil=>rfl
 | cons s l ih=>simp only[cZ,List.flatMap_cons,List.length_append,List.length_cons]at ih ⊢;rw[ih];simp[eC];omega
theorem oy(l:List Tri):∀ j i,j<l.length→i<3→(cZ l)[j * 3+i]? = (eC (l[j]?.getD z3))[i]? := by
 induction l with
 | nil=>intro j i hj;simp at hj
 | cons s l ih =>
  intro j i hj hi
  have e:cZ (s::l)=eC s++cZ l:=rfl;have hl8:(eC s).length=3:=rfl;rcases j with _ | j
  ·rw[e,List.getElem?_append_left (by omega)]
   simp
  ·have h:=ih j i (by simpa using hj) hi
   rw[e,List.getElem?_append_right (by omega),hl8,show(j+1) * 3+i - 3=j * 3+i by omega,h];simp
theorem lY:dL prs=true:=by decide
def dcp(r:Int):List Int:=if sgl r≠0 then [sgl r] else match prs.find? (fun x=>x.1==r) with
 | some p=>[p.2.1,p.2.2]
 | none=>[]
theorem rX(br ba i:Nat)(y r:Int)(W:World)(hi:i<80)
  (hr:W.cell? ⟨br,0,none⟩=some (.int .i32 r)) (hc:W.cell? ⟨ba,i * 3,none⟩=some (.int .i32 y)) :
  Calls Tryz.prog 309 (#[.int .i64 i]++#[.pointer (some ⟨br,0,none⟩),.pointer (some ⟨ba,0,none⟩)]) W fun e w'=>e=.returned (.bool (decide (r≤y)))∧∃ q,w'=W.drewN q:=by
 have hiz:(i:Int)<80:=by omega
 go_enter Tryz.func309,Tryz.ntmps309
 go_wp2
 go_region
 all_goals go_wp2
 all_goals go_ret
 all_goals exact⟨by first | rfl | simp,1,rfl⟩
theorem tn(r:Int)(w:World):Calls Tryz.prog 296 #[.int .i32 r] w fun e W'=>Ans (dcp r) w e W':=by
 obtain⟨L,hL⟩:∃ L,L=dcp r:=⟨_,rfl⟩;have HL:=hid' hL;rw[←hL];clear hL;obtain⟨S,hS⟩:∃ S,S=sgl r:=⟨_,rfl⟩;have HS:=hid' hS;clear hS;have hBx:Below w.heap.size w (w.alloc (.cells #[.int .i32 r] 21)):=(Below.refl _ w).alloc (Nat.le_refl _) _;by_cases hs0:S=0
 ·have HL2:Hid (L=match prs.find? (fun x=>x.1==r) with | some p=>[p.2.1,p.2.2] | none=>[]):=by show _=_;rw[HL.out];unfold dcp;rw[←HS.out,if_neg (by simpa using hs0)]
  subst hs0;clear HL
  obtain⟨z,hz,hzs⟩:∃ z:Array Value,(∀ w,(zeroValue 275).run Tryz.prog w=.ok (.agg z) w)∧z.size=240:=by
   refine⟨(cZ (List.replicate 80 (0,0,0))).toArray,?_,?_⟩
   ·exact(zero_of_info (P:=Tryz.prog) (t:=275) (n:=240) (by kernel_rfl)).1
   ·kernel_rfl
  obtain⟨c,hc⟩:∃ c:Array Value,c=(cZ prs).toArray:=⟨_,rfl⟩;have HC:=hid' hc;have HCI:Hid ((Tryz.prog.info? 275).map (·.size)=some c.size):=by show _=_;rw[hc];kernel_rfl
  have HCS:Hid (z.size=c.size):=by show _=_;rw[hzs,hc];kernel_rfl
  have HCO:Hid (c.all (·.oneCell')=true):=by show _=_;rw[hc];kernel_rfl
  have hcall:=uk;rw[←hc]at hcall;have HCALL:=hid' hcall;clear hc hzs hcall;have HBX:=hid' hBx;clear hBx;go_enter Tryz.func296,Tryz.ntmps296
  go_wp2_with fail;refine(lQ r _).mono ?_;rw[←HS.out];rintro e w0 ⟨rfl,hw0⟩
  have hc0:w0.cell? ⟨w.heap.size,0,none⟩=some (.int .i32 r):=by rw[hw0];exact cell_new_sl w _ _
  have hB0:Below w.heap.size w w0:=by rw[hw0];exact HBX.out
  have hs0:w0.heap.size=w.heap.size+1:=by rw[hw0];simp
  clear hw0 HBX
  go_wp2_with fail;refine(HCALL.out _).mono ?_;rintro e w1 ⟨rfl,hB1⟩
  have hc1:w1.cell? ⟨w.heap.size,0,none⟩=some (.int .i32 r):=(hB1.cell (p:=⟨w.heap.size,0,none⟩) (by show w.heap.size<_;omega)).trans hc0;have hBw1:Below w.heap.size w w1:=hB0.trans (hB1.mono (by omega));have hs1:w.heap.size+1≤w1.heap.size:=by have:=hB1.size;omega
  clear hB1 hB0 hc0 hs0
  go_wp2_with((refine wpList_store_row rfl 275 (.tmp 4) (.tmp 12) rfl w1.heap.size c rfl rfl 275 z (by exact heap_alloc_last w1 _) (by exact HCI.out) (by exact HCS.out) (by exact HCO.out) (wpList_nil ?_);rw[World.setRow_alloc_new]))
  obtain⟨W0,hW0⟩:∃ W0,W0=w1.alloc (.cells c 275):=⟨_,rfl⟩;rw[←hW0];have hrow:W0.heap[w1.heap.size]? = some (.cells c 275):=by rw[hW0];exact heap_alloc_last w1 _
  have hsize:W0.heap.size=w1.heap.size+1:=by rw[hW0];simp
  have cr:W0.cell? ⟨w.heap.size,0,none⟩=some (.int .i32 r):=by rw[hW0];exact cell_alloc_sl _ hc1
  have cp:∀ i j,i<80→j<3→W0.cell? ⟨w1.heap.size,i * 3+j,none⟩=(eC (prs[i]?.getD z3))[j]? := by
   intro i j hi hj
   rw[cell_of_row _ _ _ _ 275 (0,0) hrow,HC.out,←oy prs i j hi hj];simp
  have hBw0:Below w.heap.size w W0:=by rw[hW0];exact hBw1.alloc hBw1.size _
  have eg:∀ args w,(callFunc 309 args).run Tryz.prog w=.ok (.enter 309 args) w:=enters_of Tryz.func309 (by kernel_rfl) rfl
  have hS:=Any.sort_Search Tryz.search 309 #[.pointer (some ⟨w.heap.size,0,none⟩),.pointer (some ⟨w1.heap.size,0,none⟩)] prs.length (fun i=>decide (r≤(prs[i]?.getD z3).1)) W0 eg (by decide)
   (fun m os i hi=>(rX w.heap.size w1.heap.size i _ r _ hi (cell_grown (by simp[hsize];omega) cr m os) (cell_grown (by simp[hsize]) (cp i 0 hi (by omega)) m os)).mono
     fun _ _ ⟨he,q,hq⟩=>⟨he,q,#[],by rw[hq,grow_empty]⟩) (fun a b hab hb h=>sU lY hab hb h)
  rw[nH]at hS;have hS':Calls Tryz.prog 289 #[.int .i64 80,.func (.func 309) #[] #[.pointer (some ⟨w.heap.size,0,none⟩),.pointer (some ⟨w1.heap.size,0,none⟩)]] W0 fun e w'=>e=.returned (.int .i64 (bH prs r:Nat))∧∃ q os,w'=grow (W0.drewN q) os:=hS
  have hfa:=rL prs r lY;obtain⟨A,hA⟩:∃ A,A=bH prs r:=⟨_,rfl⟩;have hA1:A≤80:=by rw[hA];exact xr prs r
  rw[←hA]at hS';have HA:=hid' hA;refine hS'.mono ?_;rintro e w2 ⟨rfl,q,os,hw2⟩
  have hB2:Below W0.heap.size W0 w2:=by rw[hw2];exact below_grown_sl _ W0 q os (Nat.le_refl _)
  have hBw2:Below w.heap.size w w2:=hBw0.trans (hB2.mono (by omega));have cr2:w2.cell? ⟨w.heap.size,0,none⟩=some (.int .i32 r):=(hB2.cell (p:=⟨w.heap.size,0,none⟩) (by show w.heap.size<_;omega)).trans cr;have cp2:∀ i j,i<80→j<3→w2.cell? ⟨w1.heap.size,i * 3+j,none⟩=(eC (prs[i]?.getD z3))[j]? := fun i j hi hj=>(hB2.cell (p:=⟨w1.heap.size,i * 3+j,none⟩) (by show w1.heap.size<_;omega)).trans (cp i j hi hj)
  have HBW:=hid' hBw2;have HFA:=hid' hfa;have HCP:=hid' cp2;clear hS hS' hw2 hB2 hBw2 cr cp eg hrow hBw0 hW0 hfa cp2 hA hc1 hBw1;by_cases hlt:A<80
  ·have hlt':(A:Int)<80:=by omega
   have hne:((A:Int)==80)=false:=by simp;omega
   obtain⟨x,hx⟩:∃ x,x=prs[A]?.getD z3:=⟨_,rfl⟩;have hcells:=fun j hj=>HCP.out A j hlt hj
   rw[←hx]at hcells
   have HP2:Hid (prs.find? (fun x=>x.1==r)=if x.1=r then some x else none):=by
    have:=HFA.out;have e:bH prs r=A:=HA.out.symm;simp only[e]at this;rw[dif_pos (show A<prs.length from hlt)]at this;have e2:prs[A]'(show A<prs.length from hlt)=x:=by rw[hx,List.getElem?_eq_getElem (show A<prs.length from hlt)];rfl
    rw[e2]at this;exact this
   obtain⟨x0,x1,x2⟩:=x;have c0:w2.cell? ⟨w1.heap.size,A * 3,none⟩=some (.int .i32 x0):=hcells 0 (by omega);have c1:w2.cell? ⟨w1.heap.size,A * 3+1,none⟩=some (.int .i32 x1):=hcells 1 (by omega);have c2:w2.cell? ⟨w1.heap.size,A * 3+2,none⟩=some (.int .i32 x2):=hcells 2 (by omega);clear hcells hx HCP HFA;by_cases he:x0=r
   ·subst he
    have HG:Hid (L=[x1,x2]):=by show _=_;rw[HL2.out,HP2.out,if_pos rfl]
    clear HP2 HL2
    go_wp2_with fail
    go_quiet (fail)
    go_wp2
    go_region
    all_goals go_wp2
    all_goals go_ret
    exact Ans.two (W:=w2.drewN (nq+1)) HG.out (below_drewN HBW.out _)
   ·have hneb:(r != x0)=true:=by simp;omega
    have hneb2:(r==x0)=false:=by simp;omega
    have HG:Hid (L=[]):=by show _=_;rw[HL2.out,HP2.out,if_neg he]
    clear HP2 HL2
    go_wp2_with fail
    go_quiet (fail)
    go_wp2;go_ret;exact Ans.nil HG.out (below_drewN HBW.out _)
  ·have hne:((A:Int)==80)=true:=by simp;omega
   have HG:Hid (L=[]):=by
    show _=_
    have:=HFA.out;have e:bH prs r=A:=HA.out.symm;simp only[e]at this;rw[dif_neg (show ¬ A<prs.length from hlt)]at this;rw[HL2.out,this]
   clear HCP HFA HL2
   go_wp2_with fail
   go_quiet (fail)
   go_wp2;go_ret;exact Ans.nil HG.out (below_drewN HBW.out _)
 ·have HL2:Hid (L=[S]):=by show _=_;rw[HL.out];unfold dcp;rw[←HS.out,if_pos hs0]
  have hdb:(S != 0)=true:=by simpa using hs0
  have hdb2:(S==0)=false:=by simpa using hs0
  clear HL;go_enter Tryz.func296,Tryz.ntmps296
  go_wp2_with fail;refine(lQ r _).mono ?_;rw[←HS.out];rintro e w1 ⟨rfl,rfl⟩
  go_wp2;go_ret;have:=Ans.one (w:=w) (W:=w.alloc (.cells #[.int .i32 r] 21)) HL2.out hBx;rw[World.size_alloc]at this;exact this
def prf(d:List Tri)(a b:Int):Int×Bool:=match d.find? (fun x=>x.2.1==a&&x.2.2==b) with
 | some p=>(p.1,true)
 | none=>(0,false)
theorem Cl{d:List Tri}{k:Nat}{a b:Int}(hk:k<d.length)(h:(d[k]?.getD z3).2.1=a∧(d[k]?.getD z3).2.2=b):prf (d.drop k) a b=((d[k]?.getD z3).1,true):=by
 rw[List.drop_eq_getElem_cons hk];rw[List.getElem?_eq_getElem hk]at h ⊢;simp only[Option.getD_some]at h ⊢;unfold prf;rw[List.find?_cons_of_pos (by simp[h.1,h.2])]
theorem yD{d:List Tri}{k:Nat}{a b:Int}(hk:k<d.length)(h:¬ ((d[k]?.getD z3).2.1=a∧(d[k]?.getD z3).2.2=b)):prf (d.drop k) a b=prf (d.drop (k+1)) a b:=by
 rw[List.drop_eq_getElem_cons hk];rw[List.getElem?_eq_getElem hk]at h;simp only[Option.getD_some]at h;unfold prf;rw[List.find?_cons_of_neg (by simpa using h)]
theorem Cm{d:List Tri}{k:Nat}{a b:Int}(hk:d.length≤k):prf (d.drop k) a b=(0,false):=by
 rw[List.drop_of_length_le hk];rfl
theorem wM(l:List Tri)(j:Nat)(hj:j<l.length):(cZ l).toArray.extract (j * 3) (j * 3+3)=(eC (l[j]?.getD z3)).toArray:=by
 apply Array.ext_getElem?;intro i
 by_cases hi:i<3
 ·have:=oy l j i hj hi
  rw[Array.getElem?_extract,if_pos (by simp[wL];omega)]
  simpa using this
 ·rw[Array.getElem?_eq_none (by simp;omega),Array.getElem?_eq_none (by simp[eC];omega)]
theorem C6(j:Nat)(hj:j<80)(W:World):(Instr.index 275 (.agg (cZ prs).toArray) (.int .i64 (j:Int))).run Tryz.prog W=.ok (.agg (eC (prs[j]?.getD z3)).toArray) W:=by
 rw[←wM prs j hj]
 generalize (cZ prs).toArray=c
 simp[Instr.index,asIntOf,run_underlying Tryz.underlying275,part,Tryz.sizeOf274];intro h
 omega
theorem mb(a b:Int)(w:World):Calls Tryz.prog 255 #[.int .i32 a,.int .i32 b] w fun e W'=>e=.returned (.tuple #[.int .i32 (prf prs a b).1,.bool (prf prs a b).2])∧Below w.heap.size w W':=by
 obtain⟨⟨R1,R2⟩,hR⟩:∃ R,R=prf prs a b:=⟨_,rfl⟩;have HR0:Hid (prf (prs.drop 0) a b=(R1,R2)):=hR.symm;rw[←hR];clear hR
 dsimp only
 obtain⟨c,hc⟩:∃ c:Array Value,c=(cZ prs).toArray:=⟨_,rfl⟩;have hix:=C6;have hcall:=uk;rw[←hc]at hcall hix;have HCALL:=hid' hcall;have HIX:=hid' hix;clear hc hcall hix;have HI:Hid ((Tryz.prog.info? 274).map (·.size)=some 3):=by show _=_;kernel_rfl
 go_enter Tryz.func255,Tryz.ntmps255
 go_wp2_with fail;refine(HCALL.out _).mono ?_;rintro e w1 ⟨rfl,hB1⟩
 go_wp2_with fail
 go_loopw [9] (fun i wr=>∃ k:Nat,k≤80∧i=.int .i64 k∧Below w.heap.size w wr∧Hid (prf (prs.drop k) a b=(R1,R2))) (fun i _=>80 - (intOf i).toNat)
 case atStart=>exact⟨0,by omega,rfl,hB1,HR0⟩
 case round =>
  obtain⟨k,hk,rfl,hB,HR⟩:=hrel;clear HR0 hB1;by_cases hlt:k<80
  ·have hlt':(k:Int)<80:=by omega
   have hix:=HIX.out k hlt;obtain⟨⟨x0,x1,x2⟩,hx⟩:∃ x,x=prs[k]?.getD z3:=⟨_,rfl⟩;rw[←hx]at hix;have hhit:=@Cl prs k a b (show k<prs.length from hlt);have hmiss:=@yD prs k a b (show k<prs.length from hlt);rw[←hx]at hhit hmiss
   dsimp only at hhit hmiss
   have HH:=hid' hhit;have HM:=hid' hmiss;clear hx hhit hmiss;simp only[eC]at hix;by_cases h1:x1=a
   ·have h1b:(x1==a)=true:=by simpa using h1
    by_cases h2:x2=b
    ·have h2b:(x2==b)=true:=by simpa using h2
     have HE:Hid (R1=x0∧R2=true):=by
      have:=HR.out;rw[HH.out ⟨h1,h2⟩]at this;cases this;exact⟨rfl,rfl⟩
     clear HR HH HM h1 h2;go_wp2
     go_ret2;exact⟨by rw[HE.out.1,HE.out.2];rfl,hB.alloc hB.size _⟩
    ·have h2b:(x2==b)=false:=by simpa using h2
     have HE:Hid (prf (prs.drop (k+1)) a b=(R1,R2)):=by show _=_;rw[←HM.out (fun h=>h2 h.2)];exact HR.out
     clear HR HH HM h1 h2;go_wp2
     go_roundw
     case rel=>exact⟨k+1,by omega,by go_num,hB.alloc hB.size _,HE⟩
     case measure=>simp[intOf];omega
   ·have h1b:(x1==a)=false:=by simpa using h1
    have HE:Hid (prf (prs.drop (k+1)) a b=(R1,R2)):=by show _=_;rw[←HM.out (fun h=>h1 h.1)];exact HR.out
    clear HR HH HM h1;go_wp2
    go_roundw
    case rel=>exact⟨k+1,by omega,by go_num,hB.alloc hB.size _,HE⟩
    case measure=>simp[intOf];omega
  ·have hlt':¬ (k:Int)<80:=by omega
   have HE:Hid (R1=0∧R2=false):=by
    have:=HR.out;rw[Cm (show prs.length≤k by show 80≤k;omega)]at this;cases this;exact⟨rfl,rfl⟩
   clear HR;go_wp2
   go_ret2;exact⟨by rw[HE.out.1,HE.out.2];rfl,hB⟩
end Go.Proofs.YtkekkbciiohbkaaGreatDoor.D
