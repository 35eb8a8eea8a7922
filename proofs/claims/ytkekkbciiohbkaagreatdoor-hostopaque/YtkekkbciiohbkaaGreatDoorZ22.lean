/- Texts one behind the other: LG LK DW DS DX NLA NLC NRA NRB NRC NRD NRE UY UZ UU UO UL JA LL LM LN JB JC. -/
import Derived.Test.YtkekkbciiohbkaaGreatDoorZ21
import Derived.Test.YtkekkbciiohbkaaGreatDoorZ13
import Derived.Test.YtkekkbciiohbkaaGreatDoorZ8
import Derived.Test.YtkekkbciiohbkaaGreatDoorZ20
import Derived.Test.YtkekkbciiohbkaaGreatDoorZ14
import Derived.Test.YtkekkbciiohbkaaGreatDoorZ2
import Derived.Test.YtkekkbciiohbkaaGreatDoorZ19
import Derived.RegionTactic
import Derived.Deep.QuietTactic
import Derived.BigQuiet
import Derived.Deep.Cut
import Derived.Deep.CutRange
set_option maxRecDepth 100000
set_option maxHeartbeats 16000000
set_option linter.unusedVariables false
set_option linter.unnecessarySimpa false
namespace Go.Proofs.YtkekkbciiohbkaaGreatDoor.L
open Go.RowKit
theorem kg{p:Int→Bool}{L:List Int}(h:∀ j,j<L.length→p (L[j]?.getD 0)=false):L.any p=false:=by
 rw[Bool.eq_false_iff];intro hc
 obtain⟨x,hx,hp⟩:=List.any_eq_true.1 hc;obtain⟨j,hj,rfl⟩:=List.mem_iff_getElem.1 hx;have:=h j hj;rw[List.getElem?_eq_getElem hj]at this;exact absurd hp (by simpa using this)
theorem qe{p:Int→Bool}{L:List Int}(j:Nat)(hj:j<L.length)(h:p (L[j]?.getD 0)=true):L.any p=true:=by
 rw[List.getElem?_eq_getElem hj]at h;exact List.any_eq_true.2 ⟨_,List.getElem_mem hj,h⟩
def G4(b:Bool)(e:Ending):Prop:=∃ k:Int,e=.returned (.int .i64 k)∧-1≤k∧k≤100000∧decide (0≤k)=b
theorem wF(v:Value)(L:List Int)(x:Int)(w:World)(hlen:L.length≤100000)(hv:U.au w v L):
  Calls Tryz.prog 298 #[v,.int .i32 x] w fun e W'=>G4 (L.any fun r=>decide (r=x)) e∧Below w.heap.size w W':=by
 obtain⟨a,c,rfl,hf⟩:=aF hv;have HF:=hid hf;have HNO:=hid (kg (p:=fun r=>decide (r=x)) (L:=L));have HYES:=hid (qe (p:=fun r=>decide (r=x)) (L:=L));obtain⟨n,hn⟩:∃ n,L.length=n:=⟨_,rfl⟩;rw[hn]at hlen HF HNO HYES ⊢;obtain⟨R,hR⟩:∃ R,(L.any fun r=>decide (r=x))=R:=⟨_,rfl⟩;rw[hR]at HNO HYES ⊢;clear hv hf hn hR;go_enter Tryz.func298,Tryz.ntmps298
 go_wp2_with fail
 go_loopw [8] (fun v8 wr=>∃ k:Nat,k≤n∧v8=.int .i64 k∧Hid (∀ j,j<k→decide (L[j]?.getD 0=x)=false)∧Hid (Below w.heap.size w wr)) (fun v8 _=>n - (intOf v8).toNat)
 case atStart=>exact⟨0,Nat.zero_le _,rfl,(fun j hj=>by omega),Below.refl _ _⟩
 case round =>
  obtain⟨k,hk,rfl,HA,HB⟩:=hrel;by_cases hlt:k<n
  ·obtain⟨b,off,rfl,hck⟩:=dS HF.out HB.out k hlt
   have HX:=hid (HYES.out k hlt)
   have HS:Hid (decide (L[k]?.getD 0=x)=false→∀ j,j<k+1→decide (L[j]?.getD 0=x)=false):=fun h j hj=>by
    by_cases e:j=k
    ·rw[e];exact h
    ·exact HA.out j (by omega)
   obtain⟨y,hy⟩:∃ y,L[k]?.getD 0=y:=⟨_,rfl⟩;rw[hy]at hck HX HS;clear hy;by_cases hq:x=y
   ·subst hq
    have HR:=hid (HX.out (decide_eq_true rfl));go_wp2;go_ret;exact⟨⟨k,rfl,by omega,by omega,by rw[HR.out];exact decide_eq_true (by omega)⟩,HB.out⟩
   ·have hq1:(x==y)=false:=by simpa using hq
    have HR:=hid (HS.out (decide_eq_false (fun h=>hq h.symm)));go_wp2
    go_roundw
    case rel=>exact⟨k+1,by omega,by go_num,HR,HB⟩
    case measure=>simp[intOf];omega
  ·have HR:=hid (HNO.out (fun j hj=>HA.out j (by omega)))
   go_wp2;go_ret;exact⟨⟨-1,rfl,by omega,by omega,by rw[HR.out];rfl⟩,HB.out⟩
theorem bT(v:Value)(L:List Int)(x:Int)(w:World)(hlen:L.length≤100000)(hv:U.au w v L):
  Calls Tryz.prog 266 #[v,.int .i32 x] w fun e W'=>e=.returned (.bool (L.any fun r=>decide (r=x)))∧Below w.heap.size w W':=by
 have HC:=hid (wF v L x w hlen hv);obtain⟨a,c,rfl,-⟩:=aF hv;obtain⟨n,hn⟩:∃ n,L.length=n:=⟨_,rfl⟩;rw[hn]at HC ⊢;clear hv hn;go_enter Tryz.func266,Tryz.ntmps266
 go_wp2_with fail;refine HC.out.mono ?_;rintro e w1 ⟨⟨k,rfl,h1,h2,h3⟩,B1⟩
 have H3:=hid h3;clear h3;go_wp2;go_ret;exact⟨by rw[←H3.out];rfl,B1⟩
theorem yi(r:Int)(w:World):Calls Tryz.prog 155 #[.int .i32 r] w fun e W'=>e=.returned (.int .u8 (sts r))∧Below w.heap.size w W':=D.lN r w
theorem Gc(r:Int)(w:World):Calls Tryz.prog 268 #[.int .i32 r] w fun e W'=>e=.returned (.bool (mrk r))∧Below w.heap.size w W':=D.zx r w
theorem px(r:Int)(w:World):
  Calls Tryz.prog 270 #[.int .i32 r] w fun e W'=>e=.returned (.bool (et r))∧Below w.heap.size w W':=by
 have HC:=hid (yi r w);have HN:Hid (et r=(decide (sts r≠1)&&decide (sts r≠4))):=rfl;obtain⟨s,hs⟩:∃ s,sts r=s:=⟨_,rfl⟩;obtain⟨R,hR⟩:∃ R,et r=R:=⟨_,rfl⟩;rw[hs]at HC HN;rw[hR]at HN ⊢;clear hs hR;go_enter Tryz.func270,Tryz.ntmps270
 go_wp2_with fail;refine HC.out.mono ?_;rintro e w1 ⟨rfl,B1⟩
 go_wp2
 all_goals (go_ret;refine⟨?_,B1⟩;rw[HN.out];first | (simp_all;done) | (simp_all;rw[Bool.eq_iff_iff];simp;done) | (simp_all;rw[Bool.eq_iff_iff];simp;intros;omega))
theorem fa(v:Value)(L:List Int)(w:World)(hlen:L.length≤100000)(hv:U.au w v L):
  Calls Tryz.prog 243 #[v,.func (.func 270) #[] #[]] w fun e W'=>G4 (L.any et) e∧Below w.heap.size w W':=by
 obtain⟨a,c,rfl,hf⟩:=aF hv;have HF:=hid hf;have HNO:=hid (kg (p:=et) (L:=L));have HYES:=hid (qe (p:=et) (L:=L));obtain⟨n,hn⟩:∃ n,L.length=n:=⟨_,rfl⟩;rw[hn]at hlen HF HNO HYES ⊢;obtain⟨R,hR⟩:∃ R,L.any et=R:=⟨_,rfl⟩;rw[hR]at HNO HYES ⊢;clear hv hf hn hR;go_enter Tryz.func243,Tryz.ntmps243
 go_wp2_with fail
 go_loopw [8] (fun v8 wr=>∃ k:Nat,k≤n∧v8=.int .i64 k∧Hid (∀ j,j<k→et (L[j]?.getD 0)=false)∧Hid (Below w.heap.size w wr)) (fun v8 _=>n - (intOf v8).toNat)
 case atStart=>exact⟨0,Nat.zero_le _,rfl,(fun j hj=>by omega),Below.refl _ _⟩
 case round =>
  obtain⟨k,hk,rfl,HA,HB⟩:=hrel;by_cases hlt:k<n
  ·obtain⟨b,off,rfl,hck⟩:=dS HF.out HB.out k hlt
   have HX:=hid (HYES.out k hlt)
   have HS:Hid (et (L[k]?.getD 0)=false→∀ j,j<k+1→et (L[j]?.getD 0)=false):=fun h j hj=>by
    by_cases e:j=k
    ·rw[e];exact h
    ·exact HA.out j (by omega)
   have HC:=hid (px (L[k]?.getD 0) wr);obtain⟨t,ht⟩:∃ t,et (L[k]?.getD 0)=t:=⟨_,rfl⟩;rw[ht]at HX HS HC;obtain⟨y,hy⟩:∃ y,L[k]?.getD 0=y:=⟨_,rfl⟩;rw[hy]at hck HC;clear hy ht;cases t with
   | true =>
    have HR:=hid (HX.out rfl)
    go_wp2_with(go_at_call 270;refine HC.out.mono ?_;rintro e w1 ⟨rfl,B1⟩)
    go_ret;exact⟨⟨k,rfl,by omega,by omega,by rw[HR.out];exact decide_eq_true (by omega)⟩,HB.out.trans (B1.mono HB.out.size)⟩
   | false =>
    have HR:=hid (HS.out rfl)
    go_wp2_with(go_at_call 270;refine HC.out.mono ?_;rintro e w1 ⟨rfl,B1⟩)
    go_roundw
    case rel=>exact⟨k+1,by omega,by go_num,HR,HB.out.trans (B1.mono HB.out.size)⟩
    case measure=>simp[intOf];omega
  ·have HR:=hid (HNO.out (fun j hj=>HA.out j (by omega)))
   go_wp2;go_ret;exact⟨⟨-1,rfl,by omega,by omega,by rw[HR.out];rfl⟩,HB.out⟩
theorem dq(v:Value)(L:List Int)(w:World)(hlen:L.length≤100000)(hv:U.au w v L):
  Calls Tryz.prog 201 #[v,.func (.func 270) #[] #[]] w fun e W'=>e=.returned (.bool (L.any et))∧Below w.heap.size w W':=by
 have HC:=hid (fa v L w hlen hv);obtain⟨a,c,rfl,-⟩:=aF hv;obtain⟨n,hn⟩:∃ n,L.length=n:=⟨_,rfl⟩;rw[hn]at HC ⊢;clear hv hn;go_enter Tryz.func201,Tryz.ntmps201
 go_wp2_with fail;refine HC.out.mono ?_;rintro e w1 ⟨⟨k,rfl,h1,h2,h3⟩,B1⟩
 have H3:=hid h3;clear h3;go_wp2;go_ret;exact⟨by rw[←H3.out];rfl,B1⟩
theorem Fs(B:Nat)(v:Value)(L:List Int)(w:World)(hlen:L.length≤10000)(hb:Boxed w B 58 v)(hv:N.bA w v L):
  Calls Tryz.prog 260 #[.pointer (some ⟨B,0,none⟩)] w fun e W'=>e=.returned (.bool (!decide (N.cK L=L)))∧Below w.heap.size w W':=by
 have HC:=hid (N.Gi v L w hlen hv);obtain⟨a,c,rfl,-⟩:=hv;have hc:=hb.cell;obtain⟨R,hR⟩:∃ R,decide (N.cK L=L)=R:=⟨_,rfl⟩;rw[hR]at HC ⊢;obtain⟨n,hn⟩:∃ n,L.length=n:=⟨_,rfl⟩;rw[hn]at HC hc;clear hR hn hb;go_enter Tryz.func260,Tryz.ntmps260
 go_wp2_with fail;refine HC.out.mono ?_;rintro e w1 ⟨rfl,B1⟩
 go_wp2;go_ret;exact⟨rfl,B1⟩
theorem Fq(B Bh:Nat)(v:Value)(hy:Bool)(L:List Int)(w:World)(hlen:L.length≤10000)(hb:Boxed w B 58 v)(hh:Boxed w Bh 4 (.bool hy))(hv:U.au w v L):
  Calls Tryz.prog 262 #[.pointer (some ⟨Bh,0,none⟩),.pointer (some ⟨B,0,none⟩)] w fun e W'=>e=.returned (.bool (hy&&decide (4≤L.length)&&decide (L[2]?.getD 0=45)&&decide (L[3]?.getD 0=45)))∧Below w.heap.size w W':=by
 obtain⟨a,c,rfl,hf⟩:=aF hv;have hc:=hb.cell;have hch:=hh.cell;have HF:=hid hf;obtain⟨x,hx⟩:∃ x,L[2]?.getD 0=x:=⟨_,rfl⟩;obtain⟨y,hyy⟩:∃ y,L[3]?.getD 0=y:=⟨_,rfl⟩;rw[hx,hyy];by_cases h4:4≤L.length
 ·obtain⟨b,off,rfl,hcc⟩:=HF.out (by omega)
  have h2:=hcc 2 (by omega);have h3:=hcc 3 (by omega);rw[hx]at h2;rw[hyy]at h3;rw[decide_eq_true h4];obtain⟨n,hn⟩:∃ n,L.length=n:=⟨_,rfl⟩;rw[hn]at hc h4 hlen;have h4z:(4:Int)≤(n:Int):=by omega
  clear hx hyy hn hb hh hv hf HF hcc;cases hy
  ·go_enter Tryz.func262,Tryz.ntmps262
   go_wp2;go_ret;exact⟨rfl,Below.refl _ _⟩
  ·go_enter Tryz.func262,Tryz.ntmps262
   go_wp2
   all_goals (go_ret;refine⟨?_,Below.refl _ _⟩;first | (simp_all;done) | (simp_all;rw[Bool.eq_iff_iff];simp;done) | (simp_all;rw[Bool.eq_iff_iff];simp;intros;omega))
 ·rw[decide_eq_false h4]
  obtain⟨n,hn⟩:∃ n,L.length=n:=⟨_,rfl⟩;rw[hn]at hc h4 hlen;have h4z:¬ (4:Int)≤(n:Int):=by omega
  clear hx hyy hn hb hh hv hf HF;cases hy
  ·go_enter Tryz.func262,Tryz.ntmps262
   go_wp2;go_ret;exact⟨rfl,Below.refl _ _⟩
  ·go_enter Tryz.func262,Tryz.ntmps262
   go_wp2;go_ret;exact⟨rfl,Below.refl _ _⟩
theorem Fp(Bh Bf Bz:Nat)(hy:Bool)(x y:Int)(w:World)(hh:Boxed w Bh 4 (.bool hy))(hf:Boxed w Bf 21 (.int .i32 x))(hz:Boxed w Bz 21 (.int .i32 y)):
  Calls Tryz.prog 263 #[.pointer (some ⟨Bh,0,none⟩),.pointer (some ⟨Bf,0,none⟩),.pointer (some ⟨Bz,0,none⟩)] w fun e W'=>e=.returned (.bool (hy&&(decide (x=45)||decide (y=45))))∧Below w.heap.size w W':=by
 have hch:=hh.cell;have hcf:=hf.cell;have hcz:=hz.cell;clear hh hf hz;cases hy
 ·go_enter Tryz.func263,Tryz.ntmps263
  go_wp2;go_ret;exact⟨rfl,Below.refl _ _⟩
 ·go_enter Tryz.func263,Tryz.ntmps263
  go_wp2
  all_goals (go_ret;refine⟨?_,Below.refl _ _⟩;first | (simp_all;done) | (simp_all;rw[Bool.eq_iff_iff];simp;done) | (simp_all;rw[Bool.eq_iff_iff];simp;intros;omega))
theorem Fm(B:Nat)(v:Value)(L:List Int)(w:World)(hlen:L.length≤10000)(hb:Boxed w B 58 v)(hv:U.au w v L):
  Calls Tryz.prog 265 #[.pointer (some ⟨B,0,none⟩)] w fun e W'=>e=.returned (.bool (L.any fun r=>decide (r=46)))∧Below w.heap.size w W':=by
 have HC:=hid (bT v L 46 w (by omega) hv);obtain⟨a,c,rfl,-⟩:=aF hv;have hc:=hb.cell;obtain⟨R,hR⟩:∃ R,(L.any fun r=>decide (r=46))=R:=⟨_,rfl⟩;rw[hR]at HC ⊢;obtain⟨n,hn⟩:∃ n,L.length=n:=⟨_,rfl⟩;rw[hn]at HC hc;clear hR hn hb hv;go_enter Tryz.func265,Tryz.ntmps265
 go_wp2_with fail;refine HC.out.mono ?_;rintro e w1 ⟨rfl,B1⟩
 go_wp2;go_ret;exact⟨rfl,B1⟩
theorem Fl(B:Nat)(x:Int)(w:World)(hb:Boxed w B 21 (.int .i32 x)):
  Calls Tryz.prog 267 #[.pointer (some ⟨B,0,none⟩)] w fun e W'=>e=.returned (.bool (mrk x))∧Below w.heap.size w W':=by
 have HC:=hid (Gc x w);have hc:=hb.cell;clear hb;go_enter Tryz.func267,Tryz.ntmps267
 go_wp2_with fail;refine HC.out.mono ?_;rintro e w1 ⟨rfl,B1⟩
 go_wp2;go_ret;exact⟨rfl,B1⟩
theorem Fk(B:Nat)(v:Value)(L:List Int)(w:World)(hlen:L.length≤10000)(hb:Boxed w B 58 v)(hv:U.au w v L):
  Calls Tryz.prog 269 #[.pointer (some ⟨B,0,none⟩)] w fun e W'=>e=.returned (.bool (L.any et))∧Below w.heap.size w W':=by
 have HC:=hid (dq v L w (by omega) hv);obtain⟨a,c,rfl,-⟩:=aF hv;have hc:=hb.cell;obtain⟨R,hR⟩:∃ R,L.any et=R:=⟨_,rfl⟩;rw[hR]at HC ⊢;obtain⟨n,hn⟩:∃ n,L.length=n:=⟨_,rfl⟩;rw[hn]at HC hc;clear hR hn hb hv;go_enter Tryz.func269,Tryz.ntmps269
 go_wp2_with fail;refine HC.out.mono ?_;rintro e w1 ⟨rfl,B1⟩
 go_wp2;go_ret;exact⟨rfl,B1⟩
theorem Fj(B:Nat)(v:Value)(L:List Int)(w:World)(hlen:L.length≤10000)(hb:Boxed w B 58 v)(hv:U.au w v L):
  Calls Tryz.prog 271 #[.pointer (some ⟨B,0,none⟩)] w fun e W'=>e=.returned (.bool (!jok L))∧Below w.heap.size w W':=by
 have HC:=hid (wD v L w (by omega) hv);obtain⟨a,c,rfl,-⟩:=aF hv;have hc:=hb.cell;obtain⟨R,hR⟩:∃ R,jok L=R:=⟨_,rfl⟩;rw[hR]at HC ⊢;obtain⟨n,hn⟩:∃ n,L.length=n:=⟨_,rfl⟩;rw[hn]at HC hc;clear hR hn hb hv;go_enter Tryz.func271,Tryz.ntmps271
 go_wp2_with fail;refine HC.out.mono ?_;rintro e w1 ⟨rfl,B1⟩
 go_wp2;go_ret;exact⟨rfl,B1⟩
section
variable (x0 x1 x2 x3 x4 x5 x6 x7 x8 x10 : Int) (x9 : Bool) (W : World)
end
end Go.Proofs.YtkekkbciiohbkaaGreatDoor.L
namespace Go.Proofs.YtkekkbciiohbkaaGreatDoor.D
open Go.RowKit Go.Lib Go.Sort Go.Shelf
end Go.Proofs.YtkekkbciiohbkaaGreatDoor.D
namespace Go.Proofs.YtkekkbciiohbkaaGreatDoor.N
open Go.RowKit
theorem mc{W:World}{a b:Nat}{v:Value}{n:Nat}{X:List Value}(h:W.ownsRow b 21 1 v n X)(hab:a≤b):W.ownsRow a 21 1 v n X:=by
 rcases h with⟨h1,⟨rfl,h2⟩ | ⟨g,cap,cur,rfl,hbg,h3⟩⟩
 ·exact⟨h1,.inl ⟨rfl,h2⟩⟩
 ·exact⟨h1,.inr ⟨g,cap,cur,rfl,by omega,h3⟩⟩
def blk:Option Addr→Nat
 | some p=>p.block
 | none=>0
def Own(base:Nat)(v:Value)(n:Nat)(L Z:List Int)(w W:World):Prop:=Z.length=n∧W.ownsRow base 21 1 v n (Z.map (Value.int .i32))∧ord (Z.map pt)=ord (L.map pt)∧Below base w W
def zof(t:TS)(R:List Pt):List Int:=(aU t++R).map (·.1)
def St(l:List Pt)(N k m i:Nat)(t:TS):Prop:=k≤N∧t=tst (l.take k)∧m=(aU t).length+(N - k)∧(i=(aU t).length∨N=0)
theorem St.here{l:List Pt}{N k m i:Nat}{t:TS}(h:St l N k m i t)(hN:l.length=N)(hi:i<m):i=(aU t).length∧k<N∧l.drop k=(l[k]?.getD z2)::l.drop (k+1)∧m=i+(N - k):=by
 obtain⟨h1,h2,h3,h4⟩:=h;have hl:(aU t).length≤k:=by rw[h2];have:=oQ (l.take k);rw[List.length_take]at this;omega
 have hi':i=(aU t).length:=by
  rcases h4 with h4 | h4
  ·exact h4
  ·omega
 have hk:k<N:=by omega
 refine⟨hi',hk,?_,by omega⟩;rw[List.drop_eq_getElem_cons (by omega),List.getElem?_eq_getElem (by omega)];rfl
theorem St.pair{l:List Pt}{N k m i:Nat}{A B:List Pt}{s c:Pt}{q:Int}(h:St l N k m i (some (A,s),B))(hN:l.length=N)(hi:i<m)(hc:l[k]?.getD z2=c)(hr:reach (some (A,s),B) c=true)(hq:pr s.1 c.1=(q,true)):
  St l N (k+1) (m - 1) i (some (A,(q,s.2)),B)∧zof (some (A,(q,s.2)),B) (l.drop (k+1))=((zof (some (A,s),B) (c::l.drop (k+1))).set A.length q).take i++((zof (some (A,s),B) (c::l.drop (k+1))).set A.length q).drop (i+1):=by
 obtain⟨h5,h6,h7,h8⟩:=h.here hN hi;obtain⟨h1,h2,h3,h4⟩:=h;have hs:=lF hr hq;have hlen:(A++(q,s.2)::B).length=i:=by rw[h5];simp[aU]
 refine⟨⟨by omega,?_,?_,.inl ?_⟩,?_⟩
 ·rw[ql l k (by omega),hc,←h2,hs]
 ·show _=(A++(q,s.2)::B).length+_;omega
 ·exact hlen.symm
 ·have e:(zof (some (A,s),B) (c::l.drop (k+1))).set A.length q=(A++(q,s.2)::B).map (·.1)++c.1::(l.drop (k+1)).map (·.1):=by
   unfold zof aU;simp
  have e0:zof (some (A,(q,s.2)),B) (l.drop (k+1))=(A++(q,s.2)::B).map (·.1)++(l.drop (k+1)).map (·.1):=by simp[zof,aU]
  have hl2:((A++(q,s.2)::B).map (·.1)).length=i:=by rw[List.length_map,hlen]
  rw[e,e0]
  generalize (A++(q,s.2)::B).map (·.1)=T at hl2 ⊢
  have hT:T.drop (i+1)=[]:=List.drop_of_length_le (by omega);rw[List.take_left' hl2,List.drop_append,hT,show i+1 - T.length=1 by omega];rfl
end Go.Proofs.YtkekkbciiohbkaaGreatDoor.N
namespace Go.Proofs.YtkekkbciiohbkaaGreatDoor.U
open Go.RowKit
end Go.Proofs.YtkekkbciiohbkaaGreatDoor.U
namespace Go.Proofs.YtkekkbciiohbkaaGreatDoor.I
open Go.RowKit
theorem hid{p:Prop}(h:p):Hid p:=h
theorem bG{base n:Nat}{v:Value}{X:List Value}{W:World}(h:W.ownsRow base 21 1 v n X):∃ a cap,v=.slice a n cap:=by
 rcases h.2 with⟨rfl,h0⟩ | ⟨g,cap,cur,rfl,_⟩
 ·exact⟨none,0,by rw[h0]⟩
 ·exact⟨_,cap,rfl⟩
theorem Eo{W:World}{v:Value}{zs:List Int}(h:D.au W v zs):U.dV W v zs:=by
 obtain⟨a,cap,rfl,⟨h1,h2⟩,h3⟩:=h;cases a with
 | none =>
  have h0:zs.length=0:=Nat.eq_zero_of_not_pos (fun hp=>by obtain⟨b,e,_⟩:=h3 hp;cases e);have e1:=h1 rfl;exact .inl ⟨by rw[h0,e1],List.length_eq_zero_iff.1 h0⟩
 | some ad =>
  refine .inr ⟨ad,cap,rfl,fun j hj=>?_⟩;obtain⟨b,e,hg⟩:=h3 (by omega);cases e
  rw[U.dZ];simp[World.cell?,hg,List.getElem?_eq_getElem hj]
theorem zu(l:List Int)(k:Nat)(hk:k<l.length):(l.take (k+1)).flatMap mpx=(l.take k).flatMap mpx++mpx (l[k]?.getD 0):=by
 rw[L.take_one l k hk,List.flatMap_append];simp
theorem CK(r:Int):(mpx r).length≤8:=by
 by_cases h:L.sts r=0
 ·unfold mpx;rw[if_pos h];simp
 ·unfold mpx D.mp
  rw[if_neg h];split
  ·simp
  ·split
   ·unfold D.mpd
    split
    ·simp
    ·unfold D.inst
     cases h:D.kD.lookup r with
     | none=>simp
     | some v =>
      have:∀ p∈D.kD,p.2.length≤8:=by decide
      exact this _ (D.ez h)
   ·simp
end Go.Proofs.YtkekkbciiohbkaaGreatDoor.I
namespace Go.Proofs.YtkekkbciiohbkaaGreatDoor.L
open Go.RowKit
end Go.Proofs.YtkekkbciiohbkaaGreatDoor.L
namespace Go.Proofs.YtkekkbciiohbkaaGreatDoor.I
open Go.RowKit
def El(W:World)(u:Value)(l:List Int):Prop:=N.bA W u l∧∀ a n c,u=.slice a n c→n≤c∧(a=none→c=0)
theorem El.below{W W':World}{u:Value}{l:List Int}(h:El W u l)(hb:Below W.heap.size W W'):El W' u l:=⟨h.1.below hb,h.2⟩
theorem El.ints{W:World}{u:Value}{l:List Int}(h:El W u l):U.au W u l:=N.sx h.1
theorem El.own{W:World}{base n:Nat}{v:Value}{zs:List Int}(hn:n=zs.length)(h:W.ownsRow base 21 1 v n (zs.map (Value.int .i32))):El W v zs:=by
 refine⟨N.bA.of_own hn h,?_⟩;rcases h.2 with⟨rfl,h0⟩ | ⟨g,cap,cur,rfl,_,_,hnc,_⟩
 ·rintro a n c e;cases e;exact⟨Nat.le_refl _,fun _=>rfl⟩
 ·rintro a n c e;cases e;exact⟨hnc,fun h=>by cases h⟩
theorem tY(W:World):(sizeOf (Tryz.prog.elem 58)).run Tryz.prog W=.ok 1 W:=by kernel_rfl
theorem El.drop{W:World}{a:Option Addr}{n c:Nat}{l:List Int}(h:El W (.slice a n c) l)(hn:l.length=n)(k:Nat)(hk:k≤n)(hp:0<n):
  ∃ u,(∀ W2,(Instr.slice 58 (.slice a n c) (some (.int .i64 (k:Int))) none none).run Tryz.prog W2=.ok u W2)∧U.au W u (l.drop k):=by
 have hc:=(h.2 _ _ _ rfl).1;obtain⟨b,off,e,hb,hcell⟩:=N.bA.cell h.1 hn.symm (by omega);subst e;have hd:(l.drop k).length=n - k:=by rw[List.length_drop,hn]
 refine⟨.slice (if c=k then some ⟨b,off,none⟩ else some ⟨b,off+k,none⟩) (n - k) (c - k),fun W2=>?_,?_⟩
 ·rw[run_slice_l W2 58 (some ⟨b,off,none⟩) n c (by kernel_rfl) .i64 (k:Int) (by omega) (by omega),tY W2]
  simp only[Result.andThen,sliced,Int.toNat_natCast];split
  ·rename_i h1
   have:c=k:=by omega
   first | rfl | rw[if_pos this]
  ·rename_i h1
   have:¬ c=k:=by omega
   first | (simp[Addr.add];done) | (rw[if_neg this];simp[Addr.add])
 ·by_cases h0:n=k
  ·exact .inl ⟨List.length_eq_zero_iff.1 (by omega),_,_,by rw[h0,Nat.sub_self]⟩
  ·refine .inr ⟨by omega,b,off+k,c - k,by rw[if_neg (by omega),hd],fun j hj=>?_⟩
   rw[hd]at hj;have:=hcell (k+j) (by omega);rw[List.getElem?_drop,Nat.add_assoc];exact this
theorem Ht{l:List Int}{hy:Bool}(h:L.dh l=false):one l hy=(l,L.flt l hy):=by unfold one;rw[if_pos h]
theorem El.nil(W:World):El W (.slice none 0 0) []:=⟨⟨none,0,rfl,fun hp=>absurd hp (by simp)⟩,fun a n c e=>by cases e;exact⟨Nat.le_refl _,fun _=>rfl⟩⟩
theorem Aw{l:List Int}{W:World}{base:Nat}{v:Value}{e:Int}(h:P.nr l W base v e):El W v (P.gu l).1:=by
 unfold P.gu;rcases h with⟨h1,rfl,rfl⟩ | ⟨h1,h2,rfl,rfl⟩ | ⟨h1,h2,pts,h3,rfl,h4⟩
 ·rw[if_pos h1];exact El.nil W
 ·rw[if_neg (by omega)]
  split
  ·exact El.nil W
  ·rename_i h3
   rcases h2 with h2 | h2
   ·exact absurd h2 h3
   ·rw[h2];exact El.nil W
 ·rw[if_neg (by omega),if_neg (by rw[h2];exact Bool.noConfusion),h3]
  exact El.own rfl h4
def xu(l:List Int)(hy:Bool)(w:World)(e:Ending)(W':World):Prop:=∃ u,e=.returned (.tuple #[u,.int .u16 (one l hy).2])∧El W' u (one l hy).1∧Below w.heap.size w W'
theorem Ia:(Tryz.prog.info? 58).map (fun i=>(i.zero,i.size,i.bytes))=some (some (.slice none 0 0),1,24):=by kernel_rfl
theorem dB{base n:Nat}{v:Value}{X:List Value}{W:World}(h:W.ownsRow base 58 1 v n X):∃ a cap,v=.slice a n cap:=by
 rcases h.2 with⟨rfl,h0⟩ | ⟨g,cap,cur,rfl,_⟩
 ·exact⟨none,0,by rw[h0]⟩
 ·exact⟨_,cap,rfl⟩
def Els(W:World)(vs:List Value)(ls:List (List Int)):Prop:=vs.length=ls.length∧∀ i,i<ls.length→El W (vs[i]?.getD undef) (ls[i]?.getD [])
theorem Els.nil(W:World):Els W [] []:=⟨rfl,fun i hi=>by simp at hi⟩
theorem Els.snoc{W:World}{vs:List Value}{ls:List (List Int)}{u:Value}{l:List Int}(h:Els W vs ls)(hu:El W u l):Els W (vs++[u]) (ls++[l]):=by
 refine⟨by simp[h.1],fun i hi=>?_⟩;by_cases e:i<ls.length
 ·rw[List.getElem?_append_left (by rw[h.1];exact e),List.getElem?_append_left e]
  exact h.2 i e
 ·have e2:i=ls.length:=by simp at hi;omega
  subst e2;rw[List.getElem?_append_right (by rw[h.1];exact Nat.le_refl _),List.getElem?_append_right (Nat.le_refl _),h.1,Nat.sub_self];exact hu
theorem Els.below{W W':World}{vs:List Value}{ls:List (List Int)}(h:Els W vs ls)(hb:Below W.heap.size W W'):Els W' vs ls:=⟨h.1,fun i hi=>(h.2 i hi).below hb⟩
theorem El.kept{W W':World}{u:Value}{l:List Int}{base e size n:Nat}{v:Value}{X:List Value}(h:El W u l)(hown:W.ownsRow base e size v n X)(he:e≠21)(hg:W.grownBy W' v.ownBlock):El W' u l:=by
 refine⟨?_,h.2⟩;obtain⟨a,cap,e1,f⟩:=h.1;refine⟨a,cap,e1,fun hp=>?_⟩;obtain⟨b,off,cur,e2,g,hc⟩:=f hp;refine⟨b,off,cur,e2,(hg.block b (Array.getElem?_eq_some_iff.1 g).1 (fun e'=>?_)).trans g,hc⟩;rcases hown.2 with⟨rfl,_⟩ | ⟨g2,cap2,cur2,rfl,_,hg2,_⟩
 ·simp[Value.ownBlock]at e'
 ·have e3:g2=b:=by simpa[Value.ownBlock]using e'.symm
  subst e3;rw[g]at hg2;cases hg2
  exact he rfl
theorem Els.kept{W W':World}{vs:List Value}{ls:List (List Int)}{base e size n:Nat}{v:Value}{X:List Value}(h:Els W vs ls)(hown:W.ownsRow base e size v n X)(he:e≠21)(hg:W.grownBy W' v.ownBlock):Els W' vs ls:=⟨h.1,fun i hi=>(h.2 i hi).kept hown he hg⟩
def qF(cur:List Int):List (List Int)→List (List Int)
 | []=>[cur]
 | a::t=>(cur++a)::t
theorem qE(l:List Int):qF [] (spl l)=spl l:=by
 obtain⟨a,t,h⟩:=bL l;rw[h];rfl
theorem yE(cur l:List Int):qF cur (spl (46::l))=cur::spl l:=by
 rw[spl,if_pos rfl];simp[qF]
theorem vN(cur l:List Int)(c:Int)(h:¬ c=46):qF cur (spl (c::l))=qF (cur++[c]) (spl l):=by
 obtain⟨a,t,hs⟩:=bL l;rw[spl,if_neg h,hs];simp[qF]
theorem drop_at(l:List Int)(k:Nat)(h:k<l.length):l.drop k=l[k]?.getD 0::l.drop (k+1):=by
 rw[List.drop_eq_getElem_cons h,List.getElem?_eq_getElem h];rfl
structure Sp(w wB wr:World)(vo:Value)(mo:Nat)(v1:Value)(m1:Nat)(vs:List Value)(done:List (List Int))(cur:List Int):Prop where
 b1:Below w.heap.size w wB
 out:wB.ownsRow w.heap.size 58 1 vo mo vs
 els:Els wB vs done
 b2:Below wB.heap.size wB wr
 one:wr.ownsRow wB.heap.size 21 1 v1 m1 (cur.map (Value.int .i32))
 mo:mo=done.length
 m1:m1=cur.length
theorem Sp.put{w wB wr w':World}{vo v1 v1':Value}{mo m1:Nat}{vs:List Value}{done:List (List Int)}{cur:List Int}{c:Int}(h:Sp w wB wr vo mo v1 m1 vs done cur)
  (hown:w'.ownsRow wB.heap.size 21 1 v1' (m1+1) ((cur++[c]).map (Value.int .i32))) (hg:(wr.alloc (.cells #[.int .i32 c] 21)).grownBy w' v1.ownBlock):Sp w wB w' vo mo v1' (m1+1) vs done (cur++[c]) :=
 ⟨h.b1,h.out,h.els,U.below_grow (h.b2.alloc h.b2.size _) (Nat.le_trans h.b2.size (by simp)) (h.one.alloc _) hg,hown,h.mo,by rw[List.length_append,←h.m1];rfl⟩
end Go.Proofs.YtkekkbciiohbkaaGreatDoor.I
