/- Texts one behind the other: DA DB. -/
import Derived.Test.YtkekkbciiohbkaaGreatDoorProg
import Derived.WalkKit
import Derived.WalkSpells
import Derived.WalkLawsBesides
import Derived.OwnWalk
import Derived.Maps.AppendAt
import Derived.Laws.AppendOwnNone
import Derived.Laws.Concat
import Derived.Laws.OwnMore
import Derived.Deep.QuietTactic
import Derived.BigQuiet
import Derived.RegionTactic
import Derived.Laws.Tables
import Derived.Laws.Rows
import Derived.Deep.WholeRow
import Derived.KernelRfl
import Derived.Shelf.SlSorted.Search
import Derived.Shelf.Lay
import Derived.Ground.SlsoProg
set_option maxRecDepth 100000
set_option maxHeartbeats 16000000
set_option linter.unusedVariables false
set_option linter.unnecessarySimpa false
namespace Go.Proofs.YtkekkbciiohbkaaGreatDoor.D
open Go.RowKit
abbrev Rw:=Int×Int×Int×Int×Int×Int×Bool×Int
abbrev Tri:=Int×Int×Int
def eK:List Rw:=[
  (45,45,1,0,5,0,false,0),
  (46,46,1,0,6,0,false,0),
  (48,57,1,0,4,0,false,0),
  (65,90,3,2,1,0,false,0),
  (95,95,1,0,0,0,false,0),
  (97,122,1,2,1,0,false,0),
  (170,170,3,2,1,0,false,0),
  (173,173,2,0,9,0,false,0),
  (178,179,3,0,4,0,false,0),
  (185,185,3,0,4,0,false,0),
  (186,186,3,2,1,0,false,0),
  (192,214,3,2,1,0,false,0),
  (216,222,3,2,1,0,false,0),
  (223,223,4,2,1,0,false,0),
  (224,246,1,2,1,0,false,0),
  (248,255,1,2,1,0,false,0),
  (376,376,3,2,1,0,false,0),
  (469,469,3,2,1,0,false,0),
  (470,470,1,2,1,0,false,0)]
def eA:List Rw:=[
  (768,772,1,1,8,230,true,4),
  (774,776,1,1,8,230,true,4),
  (778,778,1,1,8,230,true,4),
  (803,803,1,1,8,220,true,4),
  (807,808,1,1,8,202,true,4),
  (902,902,3,3,1,0,false,0),
  (904,906,3,3,1,0,false,0),
  (908,908,3,3,1,0,false,0),
  (910,911,3,3,1,0,false,0),
  (913,929,3,3,1,0,false,0),
  (931,937,3,3,1,0,false,0),
  (940,943,1,3,1,0,false,0),
  (945,961,1,3,1,0,false,0),
  (962,962,4,3,1,0,false,0),
  (963,969,1,3,1,0,false,0),
  (972,974,1,3,1,0,false,0),
  (1025,1025,3,4,1,0,false,0),
  (1029,1030,3,4,1,0,false,0),
  (1032,1032,3,4,1,0,false,0),
  (1040,1071,3,4,1,0,false,0),
  (1072,1103,1,4,1,0,false,0),
  (1105,1105,1,4,1,0,false,0),
  (1109,1110,1,4,1,0,false,0),
  (1112,1112,1,4,1,0,false,0)]
def cL:List Rw:=[
  (1488,1514,1,5,2,0,false,0),
  (1575,1575,1,6,3,0,false,2),
  (1576,1576,1,6,3,0,false,3),
  (1578,1578,1,6,3,0,false,3),
  (1583,1583,1,6,3,0,false,2),
  (1587,1587,1,6,3,0,false,3),
  (1604,1606,1,6,3,0,false,3),
  (1608,1608,1,6,3,0,false,2),
  (1610,1610,1,6,3,0,false,3),
  (1611,1611,1,1,8,27,true,4),
  (1632,1641,1,6,7,0,false,0),
  (1776,1785,1,6,4,0,false,0),
  (2325,2361,1,7,1,0,false,0),
  (2367,2367,1,7,1,0,true,0),
  (2381,2381,1,7,8,9,true,4)]
def later:List Rw:=[
  (7776,7776,3,2,1,0,false,0),
  (7777,7777,1,2,1,0,false,0),
  (7778,7778,3,2,1,0,false,0),
  (7779,7779,1,2,1,0,false,0),
  (7784,7784,3,2,1,0,false,0),
  (7785,7785,1,2,1,0,false,0),
  (7838,7838,3,2,1,0,false,0),
  (8204,8204,4,1,9,0,false,0),
  (8205,8205,4,1,9,0,false,5),
  (8486,8486,3,3,1,0,false,0),
  (8490,8490,3,2,1,0,false,0),
  (8491,8491,3,2,1,0,false,0),
  (9731,9731,1,0,0,0,false,0),
  (12290,12290,3,0,0,0,false,0),
  (12353,12438,1,8,1,0,false,0),
  (12449,12538,1,9,1,0,false,0),
  (12540,12540,1,0,1,0,false,0),
  (19968,20108,1,10,1,0,false,0),
  (64257,64257,3,2,1,0,false,0),
  (65285,65285,3,0,0,0,false,0),
  (65293,65293,3,0,5,0,false,0),
  (65294,65294,3,0,6,0,false,0),
  (65295,65295,3,0,6,0,false,0),
  (65296,65305,3,0,4,0,false,0),
  (65313,65338,3,2,1,0,false,0),
  (65345,65370,3,2,1,0,false,0),
  (65377,65377,3,0,0,0,false,0),
  (66560,66599,3,11,1,0,false,0),
  (66600,66639,1,11,1,0,false,0),
  (128512,128512,1,0,0,0,false,0)]
def prs:List Tri:=[
  (192,65,768),
  (193,65,769),
  (194,65,770),
  (195,65,771),
  (196,65,776),
  (197,65,778),
  (199,67,807),
  (200,69,768),
  (201,69,769),
  (202,69,770),
  (203,69,776),
  (204,73,768),
  (205,73,769),
  (206,73,770),
  (207,73,776),
  (209,78,771),
  (210,79,768),
  (211,79,769),
  (212,79,770),
  (213,79,771),
  (214,79,776),
  (217,85,768),
  (218,85,769),
  (219,85,770),
  (220,85,776),
  (221,89,769),
  (224,97,768),
  (225,97,769),
  (226,97,770),
  (227,97,771),
  (228,97,776),
  (229,97,778),
  (231,99,807),
  (232,101,768),
  (233,101,769),
  (234,101,770),
  (235,101,776),
  (236,105,768),
  (237,105,769),
  (238,105,770),
  (239,105,776),
  (241,110,771),
  (242,111,768),
  (243,111,769),
  (244,111,770),
  (245,111,771),
  (246,111,776),
  (249,117,768),
  (250,117,769),
  (251,117,770),
  (252,117,776),
  (253,121,769),
  (255,121,776),
  (376,89,776),
  (469,220,772),
  (470,252,772),
  (902,913,769),
  (904,917,769),
  (905,919,769),
  (906,921,769),
  (908,927,769),
  (910,933,769),
  (911,937,769),
  (940,945,769),
  (941,949,769),
  (942,951,769),
  (943,953,769),
  (972,959,769),
  (973,965,769),
  (974,969,769),
  (1025,1045,776),
  (1049,1048,774),
  (1081,1080,774),
  (1105,1077,776),
  (7776,83,775),
  (7777,115,775),
  (7778,83,803),
  (7779,115,803),
  (7784,7778,775),
  (7785,7779,775)]
def cd(x:Rw):List Value:=[.int .i32 x.1,.int .i32 x.2.1,.int .u8 x.2.2.1,.int .u8 x.2.2.2.1,.int .u8 x.2.2.2.2.1,.int .u8 x.2.2.2.2.2.1,.bool x.2.2.2.2.2.2.1,.int .u8 x.2.2.2.2.2.2.2]
def eC(x:Tri):List Value:=[.int .i32 x.1,.int .i32 x.2.1,.int .i32 x.2.2]
def aW(l:List Rw):List Value:=l.flatMap cd
def cZ(l:List Tri):List Value:=l.flatMap eC
def dW(P:Program):List Oper→Act→Option Act
 | [],a=>some a
 | o::rest,a =>
  match o.guard,o.op with
  | none,.build t parts =>
   match P.built t (parts.map fun(i,x)=>(i,a.eval x)).toList with
   | some cells=>dW P rest (a.put o.dst (.agg cells))
   | none=>none
  | _,_=>none
theorem iG{P:Program}{ops:Array Oper}{Q:Exit→Act→World→Prop}{w:World}{rest:List Oper}:∀(bs:List Oper) (a a':Act),dW P bs a=some a'→wpList P ops Q rest a' w→wpList P ops Q (bs++rest) a w
 | [],a,a',h,hk=>by simp only[dW,Option.some.injEq]at h;subst h;exact hk
 | o::bs,a,a',h,hk=>by
  unfold dW at h
  split at h
  ·rename_i t parts hg ho
   split at h
   ·rename_i cells hc
    refine wpList_build hg t parts ho (by rw[hc];rfl) ?_;rw[hc];exact iG bs _ a' h hk
   ·cases h
  ·cases h
theorem bV{P:Program}{ops:Array Oper}{Q:Exit→Act→World→Prop}{a:Act}{w:World}{l:List Oper}(n:Nat)(x y:Operand)(vx vy:Value)
  (hb:(dW P (l.take n) a).map (fun a'=>(a'.eval x,a'.eval y,a'.defers))=some (vx,vy,a.defers))
  (h:∀ a',a'.eval x=vx→a'.eval y=vy→a'.defers=a.defers→wpList P ops Q (l.drop n) a' w):wpList P ops Q l a w:=by
 cases hr:dW P (l.take n) a with
 | none=>rw[hr]at hb;cases hb
 | some a' =>
  rw[hr]at hb;simp only[Option.map_some,Option.some.injEq,Prod.mk.injEq]at hb;have:=iG (P:=P) (ops:=ops) (Q:=Q) (w:=w) (rest:=l.drop n) (l.take n) a a' hr (h a' hb.1 hb.2.1 hb.2.2)
  rwa [List.take_append_drop]at this
theorem aT{P:Program}{ops:Array Oper}{Q:Exit→Act→World→Prop}{a:Act}{w:World}{rest:List Oper}{o:Oper}(hg:o.guard=none)(ty:TypeId)(ho:o.op=.alloc ty)(z:Array Value)
  (hz:∀ w,(zeroValue ty).run P w=.ok (.agg z) w)
  (h:wpList P ops Q rest (a.put o.dst (.pointer (some ⟨w.heap.size,0,none⟩))) (w.alloc (.cells z ty))):wpList P ops Q (o::rest) a w:=by
 refine wpList_plain hg fun K hK=>?_
 unfold Oper.wp execOp;simp only[ho];simp[Instr.alloc,hz,go_sem];exact hK _ _ h
theorem wm(w:World):
  Calls Tryz.prog 247 #[] w fun e W'=>e=.returned (.agg (aW eK).toArray)∧Below w.heap.size w W':=by
 obtain⟨z,hz,hzs⟩:∃ z:Array Value,(∀ w,(zeroValue 240).run Tryz.prog w=.ok (.agg z) w)∧z.size=152:=by
  refine⟨(aW (List.replicate 19 (0,0,0,0,0,0,false,0))).toArray,?_,?_⟩
  ·exact(zero_of_info (P:=Tryz.prog) (t:=240) (n:=152) (by kernel_rfl)).1
  ·kernel_rfl
 have hi:(Tryz.prog.info? 240).map (·.size)=some (aW eK).toArray.size:=by kernel_rfl
 have hi2:(aW eK).toArray.size=152:=by kernel_rfl
 have h1:(aW eK).toArray.all (·.oneCell')=true:=by kernel_rfl
 go_enter Tryz.func247,Tryz.ntmps247
 refine wp_seq (wp_region_lit ?_);refine aT rfl 240 rfl z hz (wpList_nil ?_);refine wp_seq (wp_region_lit ?_);refine bV 20 (.tmp 0) (.tmp 20) (.pointer (some ⟨w.heap.size,0,none⟩)) (.agg (aW eK).toArray) (by kernel_rfl) ?_;intro a' h0 h20 hd
 refine wpList_store_row rfl 240 (.tmp 0) (.tmp 20) rfl w.heap.size _ h0 h20 240 z (heap_alloc_last w _) hi (by rw[hzs,hi2]) h1 (wpList_nil ?_);rw[World.setRow_alloc_new];refine wp_ret ?_;exact bodyPost_ret (results_cell_row Tryz.results247 _ _ w.heap.size 240 (aW eK).toArray (0,0) _ h0 (heap_alloc_last w _) Tryz.underlying240 rfl hi) hd ⟨rfl,(Below.refl _ w).alloc (Nat.le_refl _) _⟩
theorem wG(w:World):
  Calls Tryz.prog 249 #[] w fun e W'=>e=.returned (.agg (aW eA).toArray)∧Below w.heap.size w W':=by
 obtain⟨z,hz,hzs⟩:∃ z:Array Value,(∀ w,(zeroValue 244).run Tryz.prog w=.ok (.agg z) w)∧z.size=192:=by
  refine⟨(aW (List.replicate 24 (0,0,0,0,0,0,false,0))).toArray,?_,?_⟩
  ·exact(zero_of_info (P:=Tryz.prog) (t:=244) (n:=192) (by kernel_rfl)).1
  ·kernel_rfl
 have hi:(Tryz.prog.info? 244).map (·.size)=some (aW eA).toArray.size:=by kernel_rfl
 have hi2:(aW eA).toArray.size=192:=by kernel_rfl
 have h1:(aW eA).toArray.all (·.oneCell')=true:=by kernel_rfl
 go_enter Tryz.func249,Tryz.ntmps249
 refine wp_seq (wp_region_lit ?_);refine aT rfl 244 rfl z hz (wpList_nil ?_);refine wp_seq (wp_region_lit ?_);refine bV 25 (.tmp 0) (.tmp 25) (.pointer (some ⟨w.heap.size,0,none⟩)) (.agg (aW eA).toArray) (by kernel_rfl) ?_;intro a' h0 h20 hd
 refine wpList_store_row rfl 244 (.tmp 0) (.tmp 25) rfl w.heap.size _ h0 h20 244 z (heap_alloc_last w _) hi (by rw[hzs,hi2]) h1 (wpList_nil ?_);rw[World.setRow_alloc_new];refine wp_ret ?_;exact bodyPost_ret (results_cell_row Tryz.results249 _ _ w.heap.size 244 (aW eA).toArray (0,0) _ h0 (heap_alloc_last w _) Tryz.underlying244 rfl hi) hd ⟨rfl,(Below.refl _ w).alloc (Nat.le_refl _) _⟩
theorem s8(w:World):
  Calls Tryz.prog 250 #[] w fun e W'=>e=.returned (.agg (aW cL).toArray)∧Below w.heap.size w W':=by
 obtain⟨z,hz,hzs⟩:∃ z:Array Value,(∀ w,(zeroValue 246).run Tryz.prog w=.ok (.agg z) w)∧z.size=120:=by
  refine⟨(aW (List.replicate 15 (0,0,0,0,0,0,false,0))).toArray,?_,?_⟩
  ·exact(zero_of_info (P:=Tryz.prog) (t:=246) (n:=120) (by kernel_rfl)).1
  ·kernel_rfl
 have hi:(Tryz.prog.info? 246).map (·.size)=some (aW cL).toArray.size:=by kernel_rfl
 have hi2:(aW cL).toArray.size=120:=by kernel_rfl
 have h1:(aW cL).toArray.all (·.oneCell')=true:=by kernel_rfl
 go_enter Tryz.func250,Tryz.ntmps250
 refine wp_seq (wp_region_lit ?_);refine aT rfl 246 rfl z hz (wpList_nil ?_);refine wp_seq (wp_region_lit ?_);refine bV 16 (.tmp 0) (.tmp 16) (.pointer (some ⟨w.heap.size,0,none⟩)) (.agg (aW cL).toArray) (by kernel_rfl) ?_;intro a' h0 h20 hd
 refine wpList_store_row rfl 246 (.tmp 0) (.tmp 16) rfl w.heap.size _ h0 h20 246 z (heap_alloc_last w _) hi (by rw[hzs,hi2]) h1 (wpList_nil ?_);rw[World.setRow_alloc_new];refine wp_ret ?_;exact bodyPost_ret (results_cell_row Tryz.results250 _ _ w.heap.size 246 (aW cL).toArray (0,0) _ h0 (heap_alloc_last w _) Tryz.underlying246 rfl hi) hd ⟨rfl,(Below.refl _ w).alloc (Nat.le_refl _) _⟩
theorem wo(w:World):
  Calls Tryz.prog 251 #[] w fun e W'=>e=.returned (.agg (aW later).toArray)∧Below w.heap.size w W':=by
 obtain⟨z,hz,hzs⟩:∃ z:Array Value,(∀ w,(zeroValue 248).run Tryz.prog w=.ok (.agg z) w)∧z.size=240:=by
  refine⟨(aW (List.replicate 30 (0,0,0,0,0,0,false,0))).toArray,?_,?_⟩
  ·exact(zero_of_info (P:=Tryz.prog) (t:=248) (n:=240) (by kernel_rfl)).1
  ·kernel_rfl
 have hi:(Tryz.prog.info? 248).map (·.size)=some (aW later).toArray.size:=by kernel_rfl
 have hi2:(aW later).toArray.size=240:=by kernel_rfl
 have h1:(aW later).toArray.all (·.oneCell')=true:=by kernel_rfl
 go_enter Tryz.func251,Tryz.ntmps251
 refine wp_seq (wp_region_lit ?_);refine aT rfl 248 rfl z hz (wpList_nil ?_);refine wp_seq (wp_region_lit ?_);refine bV 31 (.tmp 0) (.tmp 31) (.pointer (some ⟨w.heap.size,0,none⟩)) (.agg (aW later).toArray) (by kernel_rfl) ?_;intro a' h0 h20 hd
 refine wpList_store_row rfl 248 (.tmp 0) (.tmp 31) rfl w.heap.size _ h0 h20 248 z (heap_alloc_last w _) hi (by rw[hzs,hi2]) h1 (wpList_nil ?_);rw[World.setRow_alloc_new];refine wp_ret ?_;exact bodyPost_ret (results_cell_row Tryz.results251 _ _ w.heap.size 248 (aW later).toArray (0,0) _ h0 (heap_alloc_last w _) Tryz.underlying248 rfl hi) hd ⟨rfl,(Below.refl _ w).alloc (Nat.le_refl _) _⟩
theorem uk(w:World):
  Calls Tryz.prog 291 #[] w fun e W'=>e=.returned (.agg (cZ prs).toArray)∧Below w.heap.size w W':=by
 obtain⟨z,hz,hzs⟩:∃ z:Array Value,(∀ w,(zeroValue 275).run Tryz.prog w=.ok (.agg z) w)∧z.size=240:=by
  refine⟨(cZ (List.replicate 80 (0,0,0))).toArray,?_,?_⟩
  ·exact(zero_of_info (P:=Tryz.prog) (t:=275) (n:=240) (by kernel_rfl)).1
  ·kernel_rfl
 have hi:(Tryz.prog.info? 275).map (·.size)=some (cZ prs).toArray.size:=by kernel_rfl
 have hi2:(cZ prs).toArray.size=240:=by kernel_rfl
 have h1:(cZ prs).toArray.all (·.oneCell')=true:=by kernel_rfl
 go_enter Tryz.func291,Tryz.ntmps291
 refine wp_seq (wp_region_lit ?_);refine aT rfl 275 rfl z hz (wpList_nil ?_);refine wp_seq (wp_region_lit ?_);refine bV 81 (.tmp 0) (.tmp 81) (.pointer (some ⟨w.heap.size,0,none⟩)) (.agg (cZ prs).toArray) (by kernel_rfl) ?_;intro a' h0 h20 hd
 refine wpList_store_row rfl 275 (.tmp 0) (.tmp 81) rfl w.heap.size _ h0 h20 275 z (heap_alloc_last w _) hi (by rw[hzs,hi2]) h1 (wpList_nil ?_);rw[World.setRow_alloc_new];refine wp_ret ?_;exact bodyPost_ret (results_cell_row Tryz.results291 _ _ w.heap.size 275 (cZ prs).toArray (0,0) _ h0 (heap_alloc_last w _) Tryz.underlying275 rfl hi) hd ⟨rfl,(Below.refl _ w).alloc (Nat.le_refl _) _⟩
end Go.Proofs.YtkekkbciiohbkaaGreatDoor.D
namespace Go.Proofs
open Go.Shelf Go.RowKit Go.Lib Go.Sort
shelf_lay SlLaysO.n16 Slso 16 at Tryz as Tryz.search
end Go.Proofs
namespace Go.Proofs.YtkekkbciiohbkaaGreatDoor.D
open Go.RowKit Go.Lib Go.Sort Go.Shelf
theorem hid'{p:Prop}(h:p):Hid p:=h
theorem below_drewN{B:Nat}{a w:World}(h:Below B a w)(n:Nat):Below B a (w.drewN n):=⟨h.os,h.tape,h.output,h.size,h.block⟩
def zr:Rw:=(0,0,0,0,0,0,false,0)
def fq(r:Int)(x:Rw):Bool:=decide (x.1≤r∧r≤x.2.1)
def bM(d:List Rw)(r:Int):Rw:=(d.find? (fq r)).getD zr
def rising:List Rw→Bool
 | []=>true
 | [x]=>decide (x.1≤x.2.1)
 | x::y::l=>decide (x.1≤x.2.1)&&decide (x.2.1<y.1)&&rising (y::l)
theorem gz{x:Rw}{l:List Rw}(h:rising (x::l)=true):rising l=true:=by
 cases l with
 | nil=>rfl
 | cons y l=>simp only[rising,Bool.and_eq_true]at h;exact h.2
theorem iR:∀ {x:Rw} {l:List Rw},rising (x::l)=true→∀ y∈l,x.2.1<y.1∧y.1≤y.2.1
 | x,[],_,y,hy=>by simp at hy
 | x,z::l,h,y,hy=>by
  have ht:=gz h;simp only[rising,Bool.and_eq_true,decide_eq_true_eq]at h
  have hz:z.1≤z.2.1:=by
   cases l with
   | nil=>simpa[rising]using ht
   | cons u l=>simp only[rising,Bool.and_eq_true,decide_eq_true_eq]at ht;exact ht.1.1
  rcases List.mem_cons.1 hy with rfl | hy
  ·exact⟨h.1.2,hz⟩
  ·have:=iR ht y hy
   exact⟨by have:=h.1.2;omega,this.2⟩
def ahead(d:List Rw)(r:Int):Nat:=d.countP (fun x=>!decide (r≤x.2.1))
theorem A7(d:List Rw)(r:Int):ahead d r≤d.length:=List.countP_le_length
theorem uo:∀(d:List Rw) (r:Int),rising d=true →
  bM d r=if h:ahead d r<d.length then (if r<(d[ahead d r]).1 then zr else d[ahead d r]) else zr
 | [],r,_=>by simp[bM,ahead]
 | x::l,r,h=>by
  have ht:=gz h;have ha:=iR h;by_cases hx:r≤x.2.1
  ·have h0:ahead (x::l) r=0:=by
    unfold ahead;rw[List.countP_eq_zero];intro y hy
    rcases List.mem_cons.1 hy with rfl | hy
    ·simpa using hx
    ·have:=ha y hy
     have:r≤y.2.1:=by omega
     simpa using this
   have hl:ahead (x::l) r<(x::l).length:=by rw[h0];simp
   rw[dif_pos hl];have he:(x::l)[ahead (x::l) r]=x:=by simp[h0]
   rw[he];by_cases hlo:r<x.1
   ·rw[if_pos hlo]
    have:(x::l).find? (fq r)=none:=by
     rw[List.find?_eq_none];intro y hy
     rcases List.mem_cons.1 hy with rfl | hy
     ·simp[fq];omega
     ·have:=ha y hy
      simp[fq];omega
    unfold bM;rw[this];rfl
   ·rw[if_neg hlo]
    unfold bM;rw[List.find?_cons_of_pos (by simp[fq];omega)];rfl
  ·have h1:ahead (x::l) r=ahead l r+1:=by
    unfold ahead;rw[List.countP_cons_of_pos (by simpa using hx)]
   have hp:bM (x::l) r=bM l r:=by
    unfold bM;rw[List.find?_cons_of_neg (by simp[fq];omega)]
   rw[hp,uo l r ht];by_cases hl:ahead l r<l.length
   ·have hl':ahead (x::l) r<(x::l).length:=by rw[h1];simpa using hl
    have he:(x::l)[ahead (x::l) r]=l[ahead l r]:=by simp[h1]
    rw[dif_pos hl,dif_pos hl',he]
   ·rw[dif_neg hl,dif_neg (by rw[h1];simpa using hl)]
theorem wK(l:List Rw):∀ j i,j<l.length→i<8→(aW l)[j * 8+i]? = (cd (l[j]?.getD zr))[i]? := by
 induction l with
 | nil=>intro j i hj;simp at hj
 | cons s l ih =>
  intro j i hj hi
  have e:aW (s::l)=cd s++aW l:=rfl;have hl8:(cd s).length=8:=rfl;rcases j with _ | j
  ·rw[e,List.getElem?_append_left (by omega)]
   simp
  ·have h:=ih j i (by simpa using hj) hi
   rw[e,List.getElem?_append_right (by omega),hl8,show(j+1) * 8+i - 8=j * 8+i by omega,h];simp
def RowsIn(w:World)(b:Nat)(d:List Rw):Prop:=∃ t,w.heap[b]? = some (.cells (aW d).toArray t)
theorem RowsIn.cell{w:World}{b:Nat}{d:List Rw}(h:RowsIn w b d)(j i:Nat)(hj:j<d.length)(hi:i<8):w.cell? ⟨b,j * 8+i,none⟩=(cd (d[j]?.getD zr))[i]? := by
 obtain⟨t,h⟩:=h;rw[cell_of_row w b _ _ t (0,0) h,←wK d j i hj hi];simp
theorem RowsIn.below{A B:World}{n:Nat}{b:Nat}{d:List Rw}(h:RowsIn A b d)(hb:Below n A B)(hn:b<n):RowsIn B b d:=by
 obtain⟨t,h⟩:=h;exact⟨t,(hb.block b hn).trans h⟩
theorem tD(bl br blk cap i:Nat)(d:List Rw)(r:Int)(W:World)(hi:i<d.length)(hlen:d.length≤1000)
  (hl:W.cell? ⟨bl,0,none⟩=some (.slice (some ⟨blk,0,none⟩) d.length cap)) (hr:W.cell? ⟨br,0,none⟩=some (.int .i32 r)) (hc:W.cell? ⟨blk,i * 8+1,none⟩=some (.int .i32 (d[i]?.getD zr).2.1)) :
  Calls Tryz.prog 290 (#[.int .i64 i]++#[.pointer (some ⟨br,0,none⟩),.pointer (some ⟨bl,0,none⟩)]) W fun e w'=>e=.returned (.bool (decide (r≤(d[i]?.getD zr).2.1)))∧∃ q,w'=W.drewN q:=by
 generalize (d[i]?.getD zr).2.1=y at hc ⊢
 have hiz:(i:Int)<(d.length:Int):=by omega
 go_enter Tryz.func290,Tryz.ntmps290
 go_wp2
 go_region
 all_goals go_wp2
 all_goals go_ret
 all_goals exact⟨by first | rfl | simp,1,rfl⟩
theorem cW{B:Nat}{w w1:World}{g:Nat}{cs:Array Value}(h:Below B w w1)(hg:B≤g):Below B w (w1.setRow g cs) :=
 ⟨h.os,h.tape,h.output,by have:=h.size;simpa using this,fun i hi=>by rw[setRow_other w1 g i cs (by omega)];exact h.block i hi⟩
theorem CM{d:List Rw}{r:Int}(hd:rising d=true){a b:Nat}(hab:a≤b)(hb:b<d.length)(h:decide (r≤(d[a]?.getD zr).2.1)=true):decide (r≤(d[b]?.getD zr).2.1)=true:=by
 induction d generalizing a b with
 | nil=>simp at hb
 | cons x l ih =>
  have ht:=gz hd;rcases b with _ | b
  ·obtain rfl:a=0:=by omega
   exact h
  ·rcases a with _ | a
   ·have hb':b<l.length:=by simpa using hb
    have:=iR hd (l[b]) (List.getElem_mem hb');simp only[List.getElem?_cons_zero,Option.getD_some,decide_eq_true_eq,List.getElem?_cons_succ,List.getElem?_eq_getElem hb']at h ⊢;omega
   ·simp only[List.getElem?_cons_succ]at h ⊢
    exact ih ht (by omega) (by simpa using hb) h
theorem pU(d:List Rw)(r:Int):(List.range d.length).countP (fun i=>!decide (r≤(d[i]?.getD zr).2.1))=ahead d r:=by
 have:(List.range d.length).map (fun i=>d[i]?.getD zr)=d:=by
  apply List.ext_getElem
  ·simp
  ·intro i h1 h2
   simp[List.getElem?_eq_getElem h2]
 unfold ahead
 conv=>rhs;rw[←this,List.countP_map]
 rfl
theorem dY(blk cap:Nat)(d:List Rw)(r:Int)(w:World)(hlen:d.length≤1000)(hd:rising d=true)(hR:RowsIn w blk d):
  Calls Tryz.prog 248 #[.slice (some ⟨blk,0,none⟩) d.length cap,.int .i32 r] w fun e W'=>e=.returned (.agg (cd (bM d r)).toArray)∧Below w.heap.size w W':=by
 have hblk:blk<w.heap.size:=by obtain⟨t,h⟩:=hR;exact(Array.getElem?_eq_some_iff.1 h).1
 obtain⟨z,hz⟩:∃ z:Array Value,z=#[.int .i32 0,.int .i32 0,.int .u8 0,.int .u8 0,.int .u8 0,.int .u8 0,.bool false,.int .u8 0]:=⟨_,rfl⟩;obtain⟨W0,hW0⟩:∃ W0,W0=((w.alloc (.cells #[.slice (some ⟨blk,0,none⟩) d.length cap] 243)).alloc (.cells #[.int .i32 r] 21)).alloc (.cells #[.int .i32 0,.int .i32 0,.int .u8 0,.int .u8 0,.int .u8 0,.int .u8 0,.bool false,.int .u8 0] 197):=⟨_,rfl⟩;have hsize:W0.heap.size=w.heap.size+1+1+1:=by rw[hW0];simp
 have ca:W0.cell? ⟨w.heap.size,0,none⟩=some (.slice (some ⟨blk,0,none⟩) d.length cap):=by rw[hW0];exact cell_alloc_sl _ (cell_alloc_sl _ (cell_new_sl w _ _))
 have cx:W0.cell? ⟨w.heap.size+1,0,none⟩=some (.int .i32 r):=by rw[hW0];have:=cell_new_sl (w.alloc (.cells #[.slice (some ⟨blk,0,none⟩) d.length cap] 243)) (.int .i32 r) 21;rw[World.size_alloc]at this;exact cell_alloc_sl _ this
 have hB0:Below w.heap.size w W0:=by rw[hW0];exact(((Below.refl _ w).alloc (Nat.le_refl _) _).alloc (by simp) _).alloc (by simp;omega) _
 have hR0:=hR.below hB0 hblk;have cz:W0.heap[w.heap.size+2]? = some (.cells z 197):=by rw[hW0,hz];have:=heap_alloc_last ((w.alloc (.cells #[.slice (some ⟨blk,0,none⟩) d.length cap] 243)).alloc (.cells #[.int .i32 r] 21)) (.cells #[.int .i32 0,.int .i32 0,.int .u8 0,.int .u8 0,.int .u8 0,.int .u8 0,.bool false,.int .u8 0] 197);simpa using this
 have eg:∀ args w,(callFunc 290 args).run Tryz.prog w=.ok (.enter 290 args) w:=enters_of Tryz.func290 (by kernel_rfl) rfl
 have hS:=Any.sort_Search Tryz.search 290 #[.pointer (some ⟨w.heap.size+1,0,none⟩),.pointer (some ⟨w.heap.size,0,none⟩)] d.length (fun i=>decide (r≤(d[i]?.getD zr).2.1)) W0 eg (by omega)
  (fun m os i hi=>(tD w.heap.size (w.heap.size+1) blk cap i d r _ hi hlen (cell_grown (by simp[hsize];omega) ca m os) (cell_grown (by simp[hsize]) cx m os) (cell_grown (by simp[hsize];omega) ((hR0.cell i 1 hi (by omega)).trans rfl) m os)).mono
    fun _ _ ⟨he,q,hq⟩=>⟨he,q,#[],by rw[hq,grow_empty]⟩) (fun a b hab hb h=>CM hd hab hb h)
 rw[pU]at hS
 change Calls Tryz.prog 289 _ _ _ at hS
 have hpk:=uo d r hd;obtain⟨A,hA⟩:∃ A,A=ahead d r:=⟨_,rfl⟩;have hA1:A≤d.length:=by rw[hA];exact A7 d r
 rw[←hA]at hS;have HS:=hid' hS;have HA:=hid' hA;clear hS hA hR;go_enter Tryz.func248,Tryz.ntmps248
 go_wp2_with fail;rw[←hW0];refine HS.out.mono ?_;rintro e w1 ⟨rfl,q,os,hw1⟩
 have hB1:Below W0.heap.size W0 w1:=by rw[hw1];exact below_grown_sl _ W0 q os (Nat.le_refl _)
 have ca1:w1.cell? ⟨w.heap.size,0,none⟩=some (.slice (some ⟨blk,0,none⟩) d.length cap):=by rw[hw1];exact cell_grown (by simp[hsize];omega) ca q os
 have cx1:w1.cell? ⟨w.heap.size+1,0,none⟩=some (.int .i32 r):=by rw[hw1];exact cell_grown (by simp[hsize]) cx q os
 have hR1:RowsIn w1 blk d:=hR0.below hB1 (by omega);have cz1:w1.heap[w.heap.size+2]? = some (.cells z 197):=(hB1.block _ (by omega)).trans cz;have hBw:Below w.heap.size w w1:=hB0.trans (hB1.mono (by omega));have hz8:z.size=8:=by rw[hz];rfl
 have HZ:=hid' hz8;have HCZ:=hid' cz1;have HR1:=hid' hR1;have HB:=hid' hBw;have HP:=hid' hpk;have HI:Hid ((Tryz.prog.info? 197).map (·.size)=some 8):=by show _=_;kernel_rfl
 have hfin:∀(cs:Array Value) (tm:Array Value) (n:Nat),tm.getD 4 undef=.pointer (some ⟨w.heap.size+2,0,none⟩)→cs.size=8→(results Tryz.f248 tm).run Tryz.prog ((w1.drewN n).setRow (w.heap.size+2) cs)=.ok (.agg cs) ((w1.drewN n).setRow (w.heap.size+2) cs):=by
  intro cs tm n h1 h2
  exact results_cell_row Tryz.results248 tm _ (w.heap.size+2) 197 cs (0,0) _ h1 (setRow_heap (w1.drewN n) _ z cs 197 (0,0) HCZ.out) Tryz.underlying197 rfl (by rw[h2];exact HI.out)
 have HF:=hid' hfin
 have hbl:∀(cs:Array Value) (n:Nat),Below w.heap.size w ((w1.drewN n).setRow (w.heap.size+2) cs):=by
  intro cs n
  exact cW (below_drewN hBw n) (by omega)
 have HBL:=hid' hbl;clear hbl hfin hw1 ca cx hR0 cz eg HS hB1 hR1 hBw hpk hz8 hz cz1 hB0;by_cases hlt:A<d.length
 ·have hlt':(A:Int)<(d.length:Int):=by omega
  have hne:((A:Int)==(d.length:Int))=false:=by simp;omega
  obtain⟨x,hx⟩:∃ x,x=d[A]?.getD zr:=⟨_,rfl⟩;have hcells:=fun j hj=>HR1.out.cell A j hlt hj
  rw[←hx]at hcells
  have HP2:Hid (bM d r=if r<x.1 then zr else x):=by
   have e:ahead d r=A:=HA.out.symm;have:=HP.out;simp only[e]at this;rw[dif_pos hlt]at this;have e2:d[A]=x:=by rw[hx,List.getElem?_eq_getElem hlt];rfl
   rw[e2]at this;exact this
  obtain⟨x0,x1,x2,x3,x4,x5,x6,x7⟩:=x;have c0:w1.cell? ⟨blk,A * 8,none⟩=some (.int .i32 x0):=hcells 0 (by omega);have c1:w1.cell? ⟨blk,A * 8+1,none⟩=some (.int .i32 x1):=hcells 1 (by omega);have c2:w1.cell? ⟨blk,A * 8+2,none⟩=some (.int .u8 x2):=hcells 2 (by omega);have c3:w1.cell? ⟨blk,A * 8+3,none⟩=some (.int .u8 x3):=hcells 3 (by omega);have c4:w1.cell? ⟨blk,A * 8+4,none⟩=some (.int .u8 x4):=hcells 4 (by omega);have c5:w1.cell? ⟨blk,A * 8+5,none⟩=some (.int .u8 x5):=hcells 5 (by omega);have c6:w1.cell? ⟨blk,A * 8+6,none⟩=some (.bool x6):=hcells 6 (by omega);have c7:w1.cell? ⟨blk,A * 8+7,none⟩=some (.int .u8 x7):=hcells 7 (by omega);clear hcells hx HP HA HR1;by_cases hlo:r<x0
  ·have hlob:decide (r<x0)=true:=by simpa using hlo
   have HG:Hid (bM d r=zr):=by show _=_;rw[HP2.out,if_pos hlo]
   clear HP2
   go_wp2_with fail
   go_quiet (fail)
   go_wp2_with((refine wpList_store_row rfl 197 (.tmp 4) (.tmp 23) rfl (w.heap.size+1+1) #[.int .i32 0,.int .i32 0,.int .u8 0,.int .u8 0,.int .u8 0,.int .u8 0,.bool false,.int .u8 0] rfl rfl 197 z (by exact HCZ.out) (by exact HI.out) (by exact HZ.out) (by kernel_rfl) (wpList_nil ?_)))
   refine bodyPost_ret (HF.out _ _ _ rfl rfl) rfl ⟨by rw[HG.out];rfl,HBL.out _ _⟩
  ·have hlob:decide (r<x0)=false:=by simpa using hlo
   have HG:Hid (bM d r=(x0,x1,x2,x3,x4,x5,x6,x7)):=by show _=_;rw[HP2.out,if_neg hlo]
   clear HP2
   go_wp2_with fail
   go_quiet (fail)
   go_wp2_with((refine wpList_store_row rfl 197 (.tmp 4) (.tmp 27) rfl (w.heap.size+1+1) #[.int .i32 x0,.int .i32 x1,.int .u8 x2,.int .u8 x3,.int .u8 x4,.int .u8 x5,.bool x6,.int .u8 x7] rfl rfl 197 z (by exact HCZ.out) (by exact HI.out) (by exact HZ.out) (by kernel_rfl) (wpList_nil ?_)))
   refine bodyPost_ret (HF.out _ _ _ rfl rfl) rfl ⟨by rw[HG.out];rfl,HBL.out _ _⟩
 ·have hnl:¬ (A:Int)<(d.length:Int):=by omega
  have hne:((A:Int)==(d.length:Int))=true:=by simp;omega
  have HG:Hid (bM d r=zr):=by
   have e:ahead d r=A:=HA.out.symm;have:=HP.out;simp only[e]at this;rw[dif_neg hlt]at this;exact this
  clear HP HA HR1
  go_wp2_with fail
  go_quiet (fail)
  go_wp2_with((refine wpList_store_row rfl 197 (.tmp 4) (.tmp 23) rfl (w.heap.size+1+1) #[.int .i32 0,.int .i32 0,.int .u8 0,.int .u8 0,.int .u8 0,.int .u8 0,.bool false,.int .u8 0] rfl rfl 197 z (by exact HCZ.out) (by exact HI.out) (by exact HZ.out) (by kernel_rfl) (wpList_nil ?_)))
  refine bodyPost_ret (HF.out _ _ _ rfl rfl) rfl ⟨by rw[HG.out];rfl,HBL.out _ _⟩
end Go.Proofs.YtkekkbciiohbkaaGreatDoor.D
