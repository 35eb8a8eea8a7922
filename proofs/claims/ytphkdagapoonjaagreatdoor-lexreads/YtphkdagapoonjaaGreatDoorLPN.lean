/- lex.Lex. (Stage 15.) -/
import Derived.Test.YtphkdagapoonjaaGreatDoorLPM
namespace Go.Proofs.YtphkdagapoonjaaGreatDoor.Lx
open Go.RowKit Go.Shelf
open Go.Proofs.YtphkdagapoonjaaGreatDoor.F (bn bn_length bn_append bn_inj bn_get byte_bd hid bn_extract isEmpty_false isEmpty_true str_eq same_eq)
open Go.Proofs.YtphkdagapoonjaaGreatDoor.U (nx enc encs scal val Bytes)
attribute [local go_sem] Oper.semAt_some
set_option linter.unusedVariables false

/-- The tokens of lines, one behind the other. -/
def lexP : List (Nat × List Int) → List Tk → List Tk × Nat × Nat × Nat
  | [], o => (o, 0, 0, 0)
  | x :: r, o => if (line x.2 x.1).2.1 ≠ 0 then ([], (line x.2 x.1).2) else lexP r (o ++ (line x.2 x.1).1)
theorem lexF_P : ∀ (m : Nat) (s : List Int) (o : List Tk) (n : Nat), s.length ≤ m → lexF s.length o s n = lexP (rows s n) o
  | m, [], o, n, _ => rfl
  | 0, c :: s, o, n, h => by simp at h
  | m + 1, c :: s, o, n, h => by
    have hne : c :: s ≠ [] := by simp
    have hl := rest_len hne
    rw [rows_cons hne, lexP]
    obtain ⟨f, hf⟩ : ∃ f, (c :: s).length = f + 1 := ⟨s.length, rfl⟩
    rw [hf, lexF, if_neg hne]
    simp only
    split
    · rfl
    · rw [lexF_fuel f _ _ _ _ (by omega) (Nat.le_refl _)]
      exact lexF_P m _ _ _ (by omega)
theorem line_bad {l : List Int} {n k : Nat} (h : bd l = some k) : line l n = ([], 152, n, k) := by unfold line; rw [h]
theorem line_ctl {l : List Int} {n k : Nat} (h : bd l = none) (h2 : pb l = some k) : line l n = ([], 150, n, k) := by unfold line; rw [h, h2]
theorem line_txt {l : List Int} {n k : Nat} {o : List Tk} (h : bd l = none) (h2 : pb l = none) (h3 : lnF l.length [] l 0 n = (o, some k)) : line l n = ([], 151, n, k) := by unfold line; rw [h, h2, h3]
theorem line_ok {l : List Int} {n : Nat} {o : List Tk} (h : bd l = none) (h2 : pb l = none) (h3 : lnF l.length [] l 0 n = (o, none)) : line l n = (if o.length = 0 then [] else o ++ [⟨5, [], n, l.length⟩], 0, 0, 0) := by unfold line; rw [h, h2, h3]
theorem lines_make (s : ByteArray) (w : World) : Calls Tryz.prog 15 #[.string s] w fun e w' => e = .returned (.func (.func 32) #[] #[.pointer (some ⟨w.heap.size, 0, none⟩)]) ∧ w' = w.alloc (.cells #[.string s] 9) := by
  have hmf : ∀ (fn : Fn) (first cap : Array Value) (w : World), (Instr.makeFunc fn first cap).run Tryz.prog w = .ok (.func fn first cap) w := fun _ _ _ _ => rfl
  go_enter Tryz.func15, Tryz.ntmps15
  go_wp2
  go_ret
  exact ⟨rfl, rfl⟩
/-- What Lex answers. -/
def LnR (r : List Tk × Nat × Nat × Nat) (base : Nat) (e : Ending) (W' : World) : Prop :=
  ∃ (v : Value) (ts : List Tb), TokOwn W' base v ts ∧ ts.map Tb.tk = r.1 ∧ (∀ t ∈ ts, 0 ≤ t.n ∧ 0 ≤ t.a) ∧ e = .returned (.tuple #[v, .agg (fcs r.2.1 r.2.2.1 r.2.2.2)])
theorem TokOwn.sl {w : World} {base : Nat} {v : Value} {l : List Tb} (h : TokOwn w base v l) : ∃ (a : Option Addr) (n c : Nat), v = .slice a n c := by
  obtain ⟨a, c, e⟩ := h.form
  exact ⟨a, _, c, e⟩
theorem grown_cells {W W' : World} {row : Option Nat} (hg : W.grownBy W' row) (hr : ∀ r, row = some r → ∃ o : Obj, W.heap[r]? = some o ∧ o.isCells = false) {k : Nat} {cs : Array Value} {t : TypeId} {fr : Nat × Nat} (h : W.heap[k]? = some (Obj.cells cs t fr)) : W'.heap[k]? = some (Obj.cells cs t fr) := by
  rw [hg.block k (Array.getElem?_eq_some_iff.1 h).1 ?_]
  · exact h
  · intro e
    obtain ⟨o, ho, hc⟩ := hr k e.symm
    rw [h] at ho
    cases ho
    cases hc
/-- What the reading has so far. -/
structure Rs (w0 : World) (R : List Tk × Nat × Nat × Nat) (ls : List (Nat × List Int)) (k : Nat) (W : World) (v : Value) (o : List Tb) : Prop where
  bx : Boxed W w0.heap.size 23 v
  fb : Fb W (w0.heap.size + 1) 0 0 0
  own : TokOwn W w0.heap.size v o
  go : lexP ls (o.map Tb.tk) = R
  pos : ∀ t ∈ o, 0 ≤ t.n ∧ 0 ≤ t.a
  len : o.length ≤ k * 65537
  be : Below w0.heap.size w0 W
theorem Rs.below {w0 W W' : World} {R : List Tk × Nat × Nat × Nat} {ls : List (Nat × List Int)} {k : Nat} {v : Value} {o : List Tb} (h : Rs w0 R ls k W v o) (hb : Below W.heap.size W W') : Rs w0 R ls k W' v o :=
  ⟨boxed_kept h.bx hb, (hb.block _ (Array.getElem?_eq_some_iff.1 h.fb).1).trans h.fb, h.own.below hb, h.go, h.pos, h.len, h.be.trans (hb.mono h.be.size)⟩
theorem Rs.from {w0 W W' : World} {R : List Tk × Nat × Nat × Nat} {ls : List (Nat × List Int)} {k : Nat} {v : Value} {o : List Tb} {row : Option Nat} (h : Rs w0 R ls k W v o) (hg : W.grownBy W' row) (hr : ∀ r, row = some r → w0.heap.size ≤ r ∧ ∃ o : Obj, W.heap[r]? = some o ∧ o.isCells = false) : Rs w0 R ls k W' v o :=
  ⟨grown_cells hg (fun r e => (hr r e).2) h.bx, grown_cells hg (fun r e => (hr r e).2) h.fb, h.own.keep (fun g cur hc => grown_cells hg (fun r e => (hr r e).2) hc), h.go, h.pos, h.len, h.be.grown hg h.be.size (fun r e => (hr r e).1)⟩
theorem Rs.push {w0 W W' : World} {R : List Tk × Nat × Nat × Nat} {x : Nat × List Int} {ls : List (Nat × List Int)} {k : Nat} {v v' : Value} {o ts : List Tb} (h : Rs w0 R (x :: ls) k W v o) (hl : (line x.2 x.1).2.1 = 0) (ht : ts.map Tb.tk = (line x.2 x.1).1) (hp : ∀ t ∈ ts, 0 ≤ t.n ∧ 0 ≤ t.a) (hn : ts.length ≤ 65537)
    (h2 : TokOwn W' w0.heap.size v' (o ++ ts)) (hg : W.grownBy W' v.ownBlock) : Rs w0 R ls (k + 1) (W'.setCell ⟨w0.heap.size, 0, none⟩ v') v' (o ++ ts) := by
  have h1 := boxed_grown h.bx (by decide) h.own hg
  have hfb : Fb W' (w0.heap.size + 1) 0 0 0 := by
    have q : W.heap[w0.heap.size + 1]? = some (Obj.cells (fcs 0 0 0) 26 (0, 0)) := h.fb
    show W'.heap[_]? = _
    rw [hg.block _ (Array.getElem?_eq_some_iff.1 q).1 ?_]
    · exact q
    · intro e
      obtain ⟨_, cur, hc⟩ := h.own.own _ e.symm
      rw [q] at hc
      injection hc with hc; injection hc with _ hc; exact absurd hc (by decide)
  refine ⟨Boxed.set _ h1, hfb.set h1 (by decide) _, h2.keep (fun g cur hc => ?_), ?_, ?_, ?_, (below_grow h.be h.be.size h.own hg).setCell (p := ⟨w0.heap.size, 0, none⟩) (Nat.le_refl _) _⟩
  · have q : W'.heap[w0.heap.size]? = some (Obj.cells #[v] 23 (0, 0)) := h1
    refine (Below.heap_setCell _ _ _ _ (fun e => ?_)).trans hc
    rw [e, q] at hc
    injection hc with hc; injection hc with _ hc; exact absurd hc (by decide)
  · have := h.go
    rw [lexP, if_neg (by simpa using hl)] at this
    rw [List.map_append, ht]
    exact this
  · intro t ht
    exact (List.mem_append.1 ht).elim (h.pos t) (hp t)
  · have := h.len
    rw [List.length_append]
    omega
theorem ln_len : ∀ (f : Nat) (o : List Tk) (l : List Int) (i n : Nat), (lnF f o l i n).1.length ≤ o.length + l.length
  | 0, o, l, i, n => by simp [lnF]
  | f + 1, o, [], i, n => by simp [lnF]
  | f + 1, o, c :: r, i, n => by
    rw [lnF]
    have hr : ∀ (o' : List Tk) (j : Nat), o'.length ≤ o.length + 1 → (lnF f o' r j n).1.length ≤ o.length + (c :: r).length := fun o' j h => by
      have := ln_len f o' r j n
      rw [List.length_cons]
      omega
    split
    · simp
    split
    · exact hr _ _ (by omega)
    split
    · exact hr _ _ (by simp)
    split
    · exact hr _ _ (by simp)
    split
    · split
      · simp
      · have := ln_len f (o ++ [⟨2, (tx (r.length + 1) [] r 1).1, n, i⟩]) (r.drop ((tx (r.length + 1) [] r 1).2.1 - 1)) (i + (tx (r.length + 1) [] r 1).2.1) n
        rw [List.length_append, List.length_drop] at this
        simp only [List.length_cons, List.length_nil] at this ⊢
        omega
    · rename_i h1 h2 h3 h4 h5
      have he : nen c = true := by unfold nen en; simp; omega
      have hd : ((c :: r).dropWhile nen).length ≤ r.length := by
        rw [List.dropWhile_cons_of_pos he]
        exact (List.dropWhile_sublist _).length_le
      have := ln_len f (o ++ [⟨1, (c :: r).takeWhile nen, n, i⟩]) ((c :: r).dropWhile nen) (i + ((c :: r).takeWhile nen).length) n
      rw [List.length_append] at this
      simp only [List.length_cons, List.length_nil] at this ⊢
      omega
theorem rows_each : ∀ (m : Nat) (s : List Int) (n : Nat), s.length ≤ m → Bytes s → (rows s n).length ≤ s.length ∧ ∀ x ∈ rows s n, x.2.length ≤ s.length ∧ Bytes x.2 ∧ x.1 ≤ n + s.length
  | m, [], n, _, _ => ⟨Nat.le_refl _, fun x hx => (by cases hx)⟩
  | 0, c :: s, n, h, _ => by simp at h
  | m + 1, c :: s, n, h, hb => by
    have hne : c :: s ≠ [] := by simp
    obtain ⟨f1, f2, f3, f4⟩ := fl_len hne
    obtain ⟨r1, r2⟩ := rows_each m (((c :: s).dropWhile no10).drop 1) (n + 1) (by omega) (fun x hx => hb x (f4 x hx))
    rw [rows_cons hne]
    refine ⟨by rw [List.length_cons]; omega, fun x hx => ?_⟩
    rcases List.mem_cons.1 hx with rfl | hx
    · exact ⟨by simp only; omega, fun x hx => hb x (f3 x hx), by simp⟩
    · obtain ⟨q1, q2, q3⟩ := r2 x hx
      exact ⟨by omega, q2, by omega⟩
/-- append of tokens, as one step of a region that draws its order. -/
theorem stepIn_toks {F : Fence} {n : Nat} {ops : Array Oper} {w : World} {o : Oper} {a : Act} {K : Act → World → Prop} {Q : Exit → Act → World → Prop} {E : Prop}
    (hg : o.guard = none) (s x : Operand) (hop : o.op = Op.call { callee := Callee.builtin Builtin.append, args := #[s, x], argTypes := #[23, 23] })
    (base : Nat) (v : Value) (ys : List Tb) (hs : a.eval s = v) (hown : TokOwn w base v ys) (u : Value) (zs : List Tb) (hx : a.eval x = u) (hu : TokAt w u zs) (hbd : ys.length + zs.length ≤ 3000000000000) (hb : base ≤ w.heap.size)
    (hK : ∀ v' w', TokOwn w' base v' (ys ++ zs) → w.grownBy w' v.ownBlock → K (a.put o.dst v') w') :
    if Region.wanted o (yielded ops a.tmps) = true then Oper.wpIn F n Tryz.prog o a w K Q else E := by
  have hw : Region.wanted o (yielded ops a.tmps) = true := by simp [Region.wanted, hg]
  rw [if_pos hw]
  obtain ⟨i0, hi, hz0, hz1, hz2⟩ := info_parts infoT
  obtain ⟨ad, cap, rfl, hcap, hc⟩ := hu
  have hrun : ∃ v' w', (Builtin.append_ #[23, 23] o.type #[v, .slice ad zs.length cap]).run Tryz.prog w = .ok v' w' ∧ TokOwn w' base v' (ys ++ zs) ∧ w.grownBy w' v.ownBlock := by
    rcases ad with _ | ad
    · have h0 : zs = [] := by
        rcases zs with _ | ⟨z, zs⟩
        · rfl
        · obtain ⟨b, off, e, _⟩ := hc (by simp); cases e
      subst h0
      rw [hcap rfl]
      exact ⟨v, w, run_append_owned_none (P := Tryz.prog) (w := w) base 23 o.type 40 i0 4 Tryz.underlying23 hi v ys.length _ hown, by simpa using hown, ⟨rfl, rfl, rfl, Nat.le_refl _, fun _ _ _ => rfl⟩⟩
    · obtain ⟨v', w', hrun, r1, r2, _⟩ := run_append_own (P := Tryz.prog) w base 23 o.type 40 i0 (.agg #[.int .u8 0, .string ⟨#[]⟩, .int .i64 0, .int .i64 0]) 4 40 Tryz.underlying23 hi hz0 hz1 hz2 rfl (by decide) v ys.length _ hown ad zs.length cap (flat4 zs) (flat4_len zs) (by
        intro j y hj
        have hl := (List.getElem?_eq_some_iff.1 hj).1
        rw [flat4_len] at hl
        obtain ⟨b, off, e, hcell⟩ := hc (by omega)
        obtain rfl : ad = ⟨b, off, none⟩ := Option.some.inj e
        have g := hcell (j / 4) (j % 4) (by omega) (by omega)
        rw [addr_add]
        have e1 : j / 4 * 4 + j % 4 = j := by omega
        rw [e1] at g
        have g2 := flat4_get zs (j / 4) (j % 4) (by omega) (by omega)
        rw [e1, hj] at g2
        rw [g, ← g2]) (flat4_one zs) (by unfold maxLen; omega) (by omega) hb
      exact ⟨v', w', hrun, by unfold TokOwn; rw [flat4_append, List.length_append]; exact r1, r2⟩
  obtain ⟨v', w', hrun, r1, r2⟩ := hrun
  unfold Oper.wpIn
  refine ⟨?_, ?_⟩
  · simp [Oper.about, hop, resolve, Target.leads, Sem.run_pure]
  · rw [Oper.semAt_plain F _ _ (by rw [hop]; intro c hc'; cases hc')]
    simp [execOp, hop, resolve, invoke, builtin, hs, hx, hrun, Result.andThen]
    exact hK v' w' r1 r2
theorem keeps_below {W W' : World} (h : Below W.heap.size W W') : KeepsOthers W W' := ⟨h.size, fun k o hk _ => (h.block k (Array.getElem?_eq_some_iff.1 hk).1).trans hk⟩
theorem keeps_toks {W W' : World} {base : Nat} {v : Value} {o : List Tb} (h : TokOwn W base v o) (hg : W.grownBy W' v.ownBlock) : KeepsOthers W W' :=
  .of_grownBy hg (fun j o hj ho => by
    obtain ⟨_, cur, hc⟩ := h.own j hj
    rw [hc] at ho
    cases ho; rfl)
set_option maxRecDepth 100000 in
set_option maxHeartbeats 8000000 in
theorem lex_short (s : ByteArray) (hs : s.size ≤ 65536) (w : World) (G : Gl w) : Calls Tryz.prog 6 #[.string s] w fun e W' => LnR (lexP (rows (bn s) 1) []) w.heap.size e W' ∧ Below w.heap.size w W' := by
  have hmf : ∀ (fn : Fn) (first cap : Array Value) (w : World), (Instr.makeFunc fn first cap).run Tryz.prog w = .ok (.func fn first cap) w := fun _ _ _ _ => rfl
  obtain ⟨xs, hxs⟩ : ∃ xs, rows (bn s) 1 = xs := ⟨_, rfl⟩
  obtain ⟨xl, xe⟩ := rows_each s.size (bn s) 1 (by rw [bn_length]; omega) (U.bn_bytes s)
  rw [bn_length] at xl xe
  have hLI := fun (W : World) (Bs : Nat) (h : Boxed W Bs 9 (.string s)) => lines_in 3 (by omega) Bs s (by omega) W h
  rw [hxs] at xl xe hLI ⊢
  obtain ⟨R, hR⟩ : ∃ R, lexP xs [] = R := ⟨_, rfl⟩
  rw [hR]
  have HXE := hid xe
  have HG := hid (fun W (h : Below w.heap.size w W) => G.below h)
  have HLI := hid hLI
  have HR := hid hR
  clear xe hLI hxs G hR
  refine calls_of_wpAt (m := 3) Tryz.func6 rfl ?_
  simp only [Tryz.ntmps6, List.size_toArray, List.length_cons, List.length_nil, Nat.reduceAdd, Nat.reduceSub, Array.replicate_succ, Array.replicate_zero, List.push_toArray, List.append_toArray, List.nil_append, List.cons_append]
  refine wpAt_seq (wpAt_of (m := 3) ?_)
  gi_wp2
  refine wpAt_seq (wpAt_of (m := 3) ?_)
  gi_wp2
  refine wpAt_seq (wpAt_of (m := 3) ?_)
  gi_wp2
  refine wpAt_seq ?_
  refine wpAt_seq (wpAt_of (m := 3) ?_)
  gi_wp2_with fail
  refine ⟨trivial, ?_⟩
  refine (callsIn_wide.2 (lines_make s _)).mono ?_
  rintro e w' ⟨rfl, rfl⟩
  gi_wp2
  refine wpAt_block ?_
  have bL := ((Boxed.new w 23 (.slice none 0 0)).alloc (.cells (fcs 0 0 0) 26)).alloc (.cells #[.string s] 9)
  have bF : Fb ((w.alloc (.cells #[.slice none 0 0] 23)).alloc (.cells (fcs 0 0 0) 26)) (w.heap.size + 1) 0 0 0 := by
    have h := heap_alloc_new (w.alloc (.cells #[.slice none 0 0] 23)) (.cells (fcs 0 0 0) 26)
    rw [World.size_alloc] at h
    exact h
  have bS := Boxed.new ((w.alloc (.cells #[.slice none 0 0] 23)).alloc (.cells (fcs 0 0 0) 26)) 9 (.string s)
  have hb0 : Below w.heap.size w (((w.alloc (.cells #[.slice none 0 0] 23)).alloc (.cells (fcs 0 0 0) 26)).alloc (.cells #[.string s] 9)) := (((Below.refl _ w).alloc (Nat.le_refl _) _).alloc (by simp) _).alloc (by simp; omega) _
  have bF2 : Fb (((w.alloc (.cells #[.slice none 0 0] 23)).alloc (.cells (fcs 0 0 0) 26)).alloc (.cells #[.string s] 9)) (w.heap.size + 1) 0 0 0 := (Lib.alloc_old _ _ _ (Array.getElem?_eq_some_iff.1 bF).1).trans bF
  obtain ⟨W0, hW0⟩ : ∃ W0, ((w.alloc (.cells #[.slice none 0 0] 23)).alloc (.cells (fcs 0 0 0) 26)).alloc (.cells #[.string s] 9) = W0 := ⟨_, rfl⟩
  have hs0 : W0.heap.size = w.heap.size + 3 := by rw [← hW0]; simp
  rw [hW0] at bL bS hb0 bF2
  have hsz2 : ((w.alloc (.cells #[.slice none 0 0] 23)).alloc (.cells (fcs 0 0 0) 26)).heap.size = w.heap.size + 1 + 1 := by simp
  rw [hsz2] at bS
  have HS0 : Hid (Rs w R xs 0 W0 (.slice none 0 0) []) := hid ⟨bL, bF2, TokOwn.nil _ _, HR.out, fun t ht => (by cases ht), Nat.zero_le _, hb0⟩
  change wpAt _ _ _ _ _ (World.alloc (World.alloc (w.alloc (.cells #[.slice none 0 0] 23)) (.cells (fcs 0 0 0) 26)) _)
  rw [hW0]
  clear bL bF bF2 hsz2 hW0
  refine wpAt_rangeFunc (n := 3) (K := Gl) ⟨_, Tryz.func6⟩ (gf := 32) (lb := #[.pointer (some ⟨w.heap.size + 1 + 1, 0, none⟩)]) rfl (enters_of Tryz.func32 (by kernel_rfl) rfl)
    (HLI.out W0 _ bS) (Below.refl _ _) (fun _ => rfl)
    (fun i W => ∃ v o, Rs w R (xs.drop i) i W v o)
    (fun ch W => ∃ e l a : Nat, ch = faultV e l a ∧ R = ([], e, l, a) ∧ (∃ v, (∃ ad n c, v = .slice ad n c) ∧ Boxed W w.heap.size 23 v) ∧ Fb W (w.heap.size + 1) 0 0 0 ∧ Below w.heap.size w W)
    (fun i W h => by obtain ⟨v, o, h⟩ := h; exact HG.out W h.be)
    (fun i X Y row h hg hr => by obtain ⟨v, o, h⟩ := h; exact ⟨v, o, h.from hg (fun r e => by obtain ⟨h1, h2⟩ := hr r e; exact ⟨by omega, h2⟩)⟩)
    (fun ch X Y row h hg hr => by
      obtain ⟨e, l, a, h1, h2, ⟨v, h3, h4⟩, h5, h6⟩ := h
      exact ⟨e, l, a, h1, h2, ⟨v, h3, grown_cells hg (fun r e => (hr r e).2) h4⟩, grown_cells hg (fun r e => (hr r e).2) h5, h6.grown hg h6.size (fun r e => by have := (hr r e).1; omega)⟩)
    ⟨_, _, HS0.out⟩
    (fun x => { tmps := #[.string s, undef, .pointer (some ⟨w.heap.size, 0, none⟩), .pointer (some ⟨w.heap.size + 1, 0, none⟩), .int .i64 (x.1 : Int), .string (mk x.2), .func (.func 14) #[] #[.pointer (some ⟨w.heap.size, 0, none⟩), .pointer (some ⟨w.heap.size + 1, 0, none⟩)], .string s, .int .i64 (s.size : Int), .bool (decide (65536 < (s.size : Int))), undef, undef, .string s, .func (.func 32) #[] #[.pointer (some ⟨w.heap.size + 1 + 1, 0, none⟩)], .int .i64 (x.1 : Int), .string (mk x.2), undef, undef, undef, undef, undef, undef, undef, undef, undef, undef], defers := [] }) ?assign ?body ?done ?pan
  case assign =>
    intro lp x W K hK
    gi_wp2
    exact hK
  case body =>
    rintro lp i x W hx ⟨v, o, hS⟩
    have hil : i < xs.length := by
      rcases Nat.lt_or_ge i xs.length with h | h
      · exact h
      · rw [List.getElem?_eq_none h] at hx; cases hx
    have hik : i ≤ 65536 := by omega
    have hdrop : xs.drop i = x :: xs.drop (i + 1) := by
      rw [List.drop_eq_getElem_cons hil]
      rw [List.getElem?_eq_getElem hil] at hx
      rw [Option.some.inj hx]
    rw [hdrop] at hS
    obtain ⟨q1, q2, q3⟩ := HXE.out x (List.mem_of_getElem? hx)
    have HS := hid hS
    obtain ⟨n, l⟩ := x
    simp only at q1 q2 q3 HS ⊢
    obtain ⟨t, ht⟩ : ∃ t, mk l = t := ⟨_, rfl⟩
    have hbt : bn t = l := by rw [← ht]; exact bn_mk q2
    have hts : t.size = l.length := by rw [← hbt, bn_length]
    rw [ht]
    have HLK := hid (look_any t (by omega) (n : Int) W (HG.out W HS.out.be))
    have HTK0 := hid (fun V (h : Below W.heap.size W V) => tokens_any t (by omega) n (by omega) V (HG.out V (HS.out.be.trans (h.mono HS.out.be.size))))
    rw [hbt] at HLK HTK0
    have HGO := hid HS.out.go
    obtain ⟨a0, n0, c0, hv0⟩ := HS.out.own.sl
    subst hv0
    have hlen : l.length ≤ 65536 := by omega
    have HI6 : Hid (∀ W', Below W.heap.size W W' → (∃ v, (∃ ad n c, v = .slice ad n c) ∧ Boxed W' w.heap.size 23 v) ∧ Fb W' (w.heap.size + 1) 0 0 0 ∧ Below w.heap.size w W') := fun W' B => ⟨⟨_, ⟨_, _, _, rfl⟩, (HS.out.below B).bx⟩, (HS.out.below B).fb, (HS.out.below B).be⟩
    clear hx hdrop hS q1 q2 q3 ht hbt hts HXE HG HLI HR HS0 bS hb0 xl
    unfold LookR at HLK
    cases hb : bd l with
    | some k =>
      rw [hb] at HLK
      have HRR : Hid (R = ([], 152, n, k)) := by
        show _ = _
        have h := HGO.out
        rw [lexP] at h
        simp only [line_bad hb] at h
        exact h.symm
      clear HGO HTK0
      gi_wp2_with fail
      refine ⟨trivial, ?_⟩
      refine (CallsIn.inRound lp (callsIn_wide.2 HLK.out)).mono ?_
      rintro e w2 ⟨rfl, B⟩
      exact ⟨keeps_below B, rfl, 152, n, k, rfl, HRR.out, HI6.out w2 B⟩
    | none =>
      rw [hb] at HLK
      cases hp : pb l with
      | some k =>
        rw [hp] at HLK
        have HRR : Hid (R = ([], 150, n, k)) := by
          show _ = _
          have h := HGO.out
          rw [lexP] at h
          simp only [line_ctl hb hp] at h
          exact h.symm
        clear HGO HTK0
        gi_wp2_with fail
        refine ⟨trivial, ?_⟩
        refine (CallsIn.inRound lp (callsIn_wide.2 HLK.out)).mono ?_
        rintro e w2 ⟨rfl, B⟩
        exact ⟨keeps_below B, rfl, 150, n, k, rfl, HRR.out, HI6.out w2 B⟩
      | none =>
        rw [hp] at HLK
        have hmx : Tryz.prog.follows .mixedOrders = true := by kernel_rfl
        gi_wp2_with fail
        refine ⟨trivial, ?_⟩
        refine (CallsIn.inRound lp (callsIn_wide.2 HLK.out)).mono ?_
        rintro e w2 ⟨rfl, B⟩
        have HBD := hid B.drew
        have HS2 := hid (HS.out.below HBD.out)
        have HTK1 := hid (HTK0.out _ HBD.out)
        have HKW := hid (keeps_below HBD.out)
        have hcw := HS2.out.bx.cell
        unfold TksR at HTK1
        have hll := ln_len l.length [] l 0 n
        obtain ⟨⟨lo, lk⟩, hln⟩ : ∃ q, lnF l.length [] l 0 n = q := ⟨_, rfl⟩
        rw [hln] at HTK1 hll
        cases lk with
        | some k =>
          have HTK : Hid (Calls Tryz.prog 17 #[.string t, .int .i64 (n : Int)] w2.drew fun e W' => e = .panicked (faultV 151 n k) ∧ Below w2.drew.heap.size w2.drew W') := HTK1
          have HRR : Hid (R = ([], 151, n, k)) := by
            show _ = _
            have h := HGO.out
            rw [lexP] at h
            simp only [line_txt hb hp hln] at h
            exact h.symm
          have HPE : Hid (∀ w3, Below w2.drew.heap.size w2.drew w3 → KeepsOthers W w3 ∧ ∃ e l a : Nat, faultV 151 n k = faultV e l a ∧ R = ([], e, l, a) ∧ (∃ v, (∃ ad n c, v = .slice ad n c) ∧ Boxed w3 w.heap.size 23 v) ∧ Fb w3 (w.heap.size + 1) 0 0 0 ∧ Below w.heap.size w w3) := fun w3 h =>
            ⟨HKW.out.trans (keeps_below h), 151, n, k, rfl, HRR.out, HI6.out w3 (HBD.out.trans (h.mono HBD.out.size))⟩
          clear HTK0 HTK1 HGO hb hp hln hll HLK HS HRR HI6 HKW HBD B
          gi_wp2_with fail
          refine wpIn_region_any hmx ?_
          change wpAnyIn _ _ _ _ _ _ _ _ _ (World.drew _)
          refine wpAnyIn_ready (rs := [0, 1, 2]) (by kernel_rfl) (by simp) ?_
          refine AllReadyIn.cons rfl (fun K hK => ?_) ?_
          · go_simp
            refine hK _ _ ?_
            clear hK K
            refine wpAnyIn_ready (rs := [1, 2]) (by kernel_rfl) (by simp) ?_
            refine AllReadyIn.cons rfl (fun K hK => ?_) ?_
            · go_simp
              refine hK _ _ ?_
              clear hK K
              refine wpAnyIn_ready (rs := [2]) (by kernel_rfl) (by simp) ?_
              refine AllReadyIn.cons rfl (fun K hK => ?_) ?_
              · go_simp
                refine hK _ _ ?_
                clear hK K
                refine wpAnyIn_ready (rs := [3]) (by kernel_rfl) (by simp) ?_
                refine AllReadyIn.cons rfl (fun K hK => ?_) ?_
                · go_simp
                  refine ⟨trivial, ?_⟩
                  refine (CallsIn.inRound lp (callsIn_wide.2 HTK.out)).mono ?_
                  rintro e w3 ⟨rfl, B3⟩
                  exact ⟨(HPE.out w3 B3).1, rfl, (HPE.out w3 B3).2⟩
                exact AllReadyIn.nil
              exact AllReadyIn.nil
            refine AllReadyIn.cons rfl (fun K hK => ?_) ?_
            · go_simp
              refine hK _ _ ?_
              clear hK K
              refine wpAnyIn_ready (rs := [1]) (by kernel_rfl) (by simp) ?_
              refine AllReadyIn.cons rfl (fun K hK => ?_) ?_
              · go_simp
                refine hK _ _ ?_
                clear hK K
                refine wpAnyIn_ready (rs := [3]) (by kernel_rfl) (by simp) ?_
                refine AllReadyIn.cons rfl (fun K hK => ?_) ?_
                · go_simp
                  refine ⟨trivial, ?_⟩
                  refine (CallsIn.inRound lp (callsIn_wide.2 HTK.out)).mono ?_
                  rintro e w3 ⟨rfl, B3⟩
                  exact ⟨(HPE.out w3 B3).1, rfl, (HPE.out w3 B3).2⟩
                exact AllReadyIn.nil
              exact AllReadyIn.nil
            exact AllReadyIn.nil
          refine AllReadyIn.cons rfl (fun K hK => ?_) ?_
          · go_simp
            refine hK _ _ ?_
            clear hK K
            refine wpAnyIn_ready (rs := [0, 2]) (by kernel_rfl) (by simp) ?_
            refine AllReadyIn.cons rfl (fun K hK => ?_) ?_
            · go_simp
              refine hK _ _ ?_
              clear hK K
              refine wpAnyIn_ready (rs := [2]) (by kernel_rfl) (by simp) ?_
              refine AllReadyIn.cons rfl (fun K hK => ?_) ?_
              · go_simp
                refine hK _ _ ?_
                clear hK K
                refine wpAnyIn_ready (rs := [3]) (by kernel_rfl) (by simp) ?_
                refine AllReadyIn.cons rfl (fun K hK => ?_) ?_
                · go_simp
                  refine ⟨trivial, ?_⟩
                  refine (CallsIn.inRound lp (callsIn_wide.2 HTK.out)).mono ?_
                  rintro e w3 ⟨rfl, B3⟩
                  exact ⟨(HPE.out w3 B3).1, rfl, (HPE.out w3 B3).2⟩
                exact AllReadyIn.nil
              exact AllReadyIn.nil
            refine AllReadyIn.cons rfl (fun K hK => ?_) ?_
            · go_simp
              refine hK _ _ ?_
              clear hK K
              refine wpAnyIn_ready (rs := [0, 3]) (by kernel_rfl) (by simp) ?_
              refine AllReadyIn.cons rfl (fun K hK => ?_) ?_
              · go_simp
                refine hK _ _ ?_
                clear hK K
                refine wpAnyIn_ready (rs := [3]) (by kernel_rfl) (by simp) ?_
                refine AllReadyIn.cons rfl (fun K hK => ?_) ?_
                · go_simp
                  refine ⟨trivial, ?_⟩
                  refine (CallsIn.inRound lp (callsIn_wide.2 HTK.out)).mono ?_
                  rintro e w3 ⟨rfl, B3⟩
                  exact ⟨(HPE.out w3 B3).1, rfl, (HPE.out w3 B3).2⟩
                exact AllReadyIn.nil
              refine AllReadyIn.cons rfl (fun K hK => ?_) ?_
              · go_simp
                refine ⟨trivial, ?_⟩
                refine (CallsIn.inRound lp (callsIn_wide.2 HTK.out)).mono ?_
                rintro e w3 ⟨rfl, B3⟩
                exact ⟨(HPE.out w3 B3).1, rfl, (HPE.out w3 B3).2⟩
              exact AllReadyIn.nil
            exact AllReadyIn.nil
          refine AllReadyIn.cons rfl (fun K hK => ?_) ?_
          · go_simp
            refine hK _ _ ?_
            clear hK K
            refine wpAnyIn_ready (rs := [0, 1]) (by kernel_rfl) (by simp) ?_
            refine AllReadyIn.cons rfl (fun K hK => ?_) ?_
            · go_simp
              refine hK _ _ ?_
              clear hK K
              refine wpAnyIn_ready (rs := [1]) (by kernel_rfl) (by simp) ?_
              refine AllReadyIn.cons rfl (fun K hK => ?_) ?_
              · go_simp
                refine hK _ _ ?_
                clear hK K
                refine wpAnyIn_ready (rs := [3]) (by kernel_rfl) (by simp) ?_
                refine AllReadyIn.cons rfl (fun K hK => ?_) ?_
                · go_simp
                  refine ⟨trivial, ?_⟩
                  refine (CallsIn.inRound lp (callsIn_wide.2 HTK.out)).mono ?_
                  rintro e w3 ⟨rfl, B3⟩
                  exact ⟨(HPE.out w3 B3).1, rfl, (HPE.out w3 B3).2⟩
                exact AllReadyIn.nil
              exact AllReadyIn.nil
            refine AllReadyIn.cons rfl (fun K hK => ?_) ?_
            · go_simp
              refine hK _ _ ?_
              clear hK K
              refine wpAnyIn_ready (rs := [0, 3]) (by kernel_rfl) (by simp) ?_
              refine AllReadyIn.cons rfl (fun K hK => ?_) ?_
              · go_simp
                refine hK _ _ ?_
                clear hK K
                refine wpAnyIn_ready (rs := [3]) (by kernel_rfl) (by simp) ?_
                refine AllReadyIn.cons rfl (fun K hK => ?_) ?_
                · go_simp
                  refine ⟨trivial, ?_⟩
                  refine (CallsIn.inRound lp (callsIn_wide.2 HTK.out)).mono ?_
                  rintro e w3 ⟨rfl, B3⟩
                  exact ⟨(HPE.out w3 B3).1, rfl, (HPE.out w3 B3).2⟩
                exact AllReadyIn.nil
              refine AllReadyIn.cons rfl (fun K hK => ?_) ?_
              · go_simp
                refine ⟨trivial, ?_⟩
                refine (CallsIn.inRound lp (callsIn_wide.2 HTK.out)).mono ?_
                rintro e w3 ⟨rfl, B3⟩
                exact ⟨(HPE.out w3 B3).1, rfl, (HPE.out w3 B3).2⟩
              exact AllReadyIn.nil
            exact AllReadyIn.nil
          exact AllReadyIn.nil
        | none =>
          have HTK : Hid (Calls Tryz.prog 17 #[.string t, .int .i64 (n : Int)] w2.drew fun e W' => (∃ (v : Value) (ts : List Tb), TokOwn W' w2.drew.heap.size v ts ∧ ts.map Tb.tk = (line l n).1 ∧ (∀ t ∈ ts, 0 ≤ t.n ∧ 0 ≤ t.a) ∧ e = .returned v) ∧ Below w2.drew.heap.size w2.drew W') := by
            rw [line_ok hb hp hln]; exact HTK1
          have HL0 : Hid ((line l n).2.1 = 0) := by show _ = _; rw [line_ok hb hp hln]
          have HLN : Hid (∀ ts : List Tb, ts.map Tb.tk = (line l n).1 → ts.length ≤ 65537) := fun ts h => by
            have h1 := congrArg List.length h
            rw [line_ok hb hp hln, List.length_map] at h1
            simp only [List.length_nil] at hll
            rw [h1]
            split
            · simp
            · rw [List.length_append]; simp; omega
          clear HTK0 HTK1 HGO hb hp hln hll HLK HS HI6 HBD B
          gi_wp2_with fail
          refine wpIn_region_any hmx ?_
          change wpAnyIn _ _ _ _ _ _ _ _ _ (World.drew _)
          refine wpAnyIn_ready (rs := [0, 1, 2]) (by kernel_rfl) (by simp) ?_
          refine AllReadyIn.cons rfl (fun K hK => ?_) ?_
          · go_simp
            refine hK _ _ ?_
            clear hK K
            refine wpAnyIn_ready (rs := [1, 2]) (by kernel_rfl) (by simp) ?_
            refine AllReadyIn.cons rfl (fun K hK => ?_) ?_
            · go_simp
              refine hK _ _ ?_
              clear hK K
              refine wpAnyIn_ready (rs := [2]) (by kernel_rfl) (by simp) ?_
              refine AllReadyIn.cons rfl (fun K hK => ?_) ?_
              · go_simp
                refine hK _ _ ?_
                clear hK K
                refine wpAnyIn_ready (rs := [3]) (by kernel_rfl) (by simp) ?_
                refine AllReadyIn.cons rfl (fun K hK => ?_) ?_
                · go_simp
                  refine ⟨trivial, ?_⟩
                  refine (CallsIn.inRound lp (callsIn_wide.2 HTK.out)).mono ?_
                  rintro e w3 ⟨⟨v3, ts, r3, m3, p3, rfl⟩, B3⟩
                  have HS3 := hid (HS2.out.below B3)
                  have HM3 := hid (And.intro m3 p3)
                  have HR3 := hid r3
                  obtain ⟨a3, n3, c3, rfl⟩ := r3.sl
                  have hc3 := HS3.out.bx.cell
                  have HB3 := hid B3
                  clear r3 m3 p3 B3
                  refine hK _ _ ?_
                  clear hK K
                  refine wpAnyIn_ready (rs := [4]) (by kernel_rfl) (by simp) ?_
                  refine AllReadyIn.cons rfl (fun K hK => ?_) ?_
                  · refine stepIn_toks rfl _ _ rfl w.heap.size _ o rfl HS3.out.own _ ts rfl HR3.out.at (by have h1 := HS3.out.len; have h2 := HLN.out ts HM3.out.1; have h3 := hik; have h4 : i * 65537 ≤ 65536 * 65537 := Nat.mul_le_mul_right _ hik; omega) HS3.out.be.size ?_
                    intro v4 w4 r4 g4
                    obtain ⟨a4, n4, c4, rfl⟩ := r4.sl
                    have HPU := hid (HS3.out.push HL0.out HM3.out.1 HM3.out.2 (HLN.out ts HM3.out.1) r4 g4)
                    have HKO := hid (keeps_toks HS3.out.own g4)
                    have hc4 := (boxed_grown HS3.out.bx (by decide) HS3.out.own g4).cell
                    have hf4 := (boxed_grown HS3.out.bx (by decide) HS3.out.own g4).frozen
                    clear r4 g4
                    refine hK _ _ ?_
                    clear hK K
                    refine wpAnyIn_ready (rs := [5]) (by kernel_rfl) (by simp) ?_
                    refine AllReadyIn.cons rfl (fun K hK => ?_) ?_
                    · go_simp
                      refine hK _ _ ?_
                      clear hK K
                      refine wpAnyIn_done (by kernel_rfl) ?_ _
                      gi_wp2
                      exact ⟨HKW.out.trans (((keeps_below HB3.out).trans HKO.out).trans (KeepsOthers.setCell _ _ _)), _, _, HPU.out⟩
                    exact AllReadyIn.nil
                  exact AllReadyIn.nil
                exact AllReadyIn.nil
              exact AllReadyIn.nil
            refine AllReadyIn.cons rfl (fun K hK => ?_) ?_
            · go_simp
              refine hK _ _ ?_
              clear hK K
              refine wpAnyIn_ready (rs := [1]) (by kernel_rfl) (by simp) ?_
              refine AllReadyIn.cons rfl (fun K hK => ?_) ?_
              · go_simp
                refine hK _ _ ?_
                clear hK K
                refine wpAnyIn_ready (rs := [3]) (by kernel_rfl) (by simp) ?_
                refine AllReadyIn.cons rfl (fun K hK => ?_) ?_
                · go_simp
                  refine ⟨trivial, ?_⟩
                  refine (CallsIn.inRound lp (callsIn_wide.2 HTK.out)).mono ?_
                  rintro e w3 ⟨⟨v3, ts, r3, m3, p3, rfl⟩, B3⟩
                  have HS3 := hid (HS2.out.below B3)
                  have HM3 := hid (And.intro m3 p3)
                  have HR3 := hid r3
                  obtain ⟨a3, n3, c3, rfl⟩ := r3.sl
                  have hc3 := HS3.out.bx.cell
                  have HB3 := hid B3
                  clear r3 m3 p3 B3
                  refine hK _ _ ?_
                  clear hK K
                  refine wpAnyIn_ready (rs := [4]) (by kernel_rfl) (by simp) ?_
                  refine AllReadyIn.cons rfl (fun K hK => ?_) ?_
                  · refine stepIn_toks rfl _ _ rfl w.heap.size _ o rfl HS3.out.own _ ts rfl HR3.out.at (by have h1 := HS3.out.len; have h2 := HLN.out ts HM3.out.1; have h3 := hik; have h4 : i * 65537 ≤ 65536 * 65537 := Nat.mul_le_mul_right _ hik; omega) HS3.out.be.size ?_
                    intro v4 w4 r4 g4
                    obtain ⟨a4, n4, c4, rfl⟩ := r4.sl
                    have HPU := hid (HS3.out.push HL0.out HM3.out.1 HM3.out.2 (HLN.out ts HM3.out.1) r4 g4)
                    have HKO := hid (keeps_toks HS3.out.own g4)
                    have hc4 := (boxed_grown HS3.out.bx (by decide) HS3.out.own g4).cell
                    have hf4 := (boxed_grown HS3.out.bx (by decide) HS3.out.own g4).frozen
                    clear r4 g4
                    refine hK _ _ ?_
                    clear hK K
                    refine wpAnyIn_ready (rs := [5]) (by kernel_rfl) (by simp) ?_
                    refine AllReadyIn.cons rfl (fun K hK => ?_) ?_
                    · go_simp
                      refine hK _ _ ?_
                      clear hK K
                      refine wpAnyIn_done (by kernel_rfl) ?_ _
                      gi_wp2
                      exact ⟨HKW.out.trans (((keeps_below HB3.out).trans HKO.out).trans (KeepsOthers.setCell _ _ _)), _, _, HPU.out⟩
                    exact AllReadyIn.nil
                  exact AllReadyIn.nil
                exact AllReadyIn.nil
              exact AllReadyIn.nil
            exact AllReadyIn.nil
          refine AllReadyIn.cons rfl (fun K hK => ?_) ?_
          · go_simp
            refine hK _ _ ?_
            clear hK K
            refine wpAnyIn_ready (rs := [0, 2]) (by kernel_rfl) (by simp) ?_
            refine AllReadyIn.cons rfl (fun K hK => ?_) ?_
            · go_simp
              refine hK _ _ ?_
              clear hK K
              refine wpAnyIn_ready (rs := [2]) (by kernel_rfl) (by simp) ?_
              refine AllReadyIn.cons rfl (fun K hK => ?_) ?_
              · go_simp
                refine hK _ _ ?_
                clear hK K
                refine wpAnyIn_ready (rs := [3]) (by kernel_rfl) (by simp) ?_
                refine AllReadyIn.cons rfl (fun K hK => ?_) ?_
                · go_simp
                  refine ⟨trivial, ?_⟩
                  refine (CallsIn.inRound lp (callsIn_wide.2 HTK.out)).mono ?_
                  rintro e w3 ⟨⟨v3, ts, r3, m3, p3, rfl⟩, B3⟩
                  have HS3 := hid (HS2.out.below B3)
                  have HM3 := hid (And.intro m3 p3)
                  have HR3 := hid r3
                  obtain ⟨a3, n3, c3, rfl⟩ := r3.sl
                  have hc3 := HS3.out.bx.cell
                  have HB3 := hid B3
                  clear r3 m3 p3 B3
                  refine hK _ _ ?_
                  clear hK K
                  refine wpAnyIn_ready (rs := [4]) (by kernel_rfl) (by simp) ?_
                  refine AllReadyIn.cons rfl (fun K hK => ?_) ?_
                  · refine stepIn_toks rfl _ _ rfl w.heap.size _ o rfl HS3.out.own _ ts rfl HR3.out.at (by have h1 := HS3.out.len; have h2 := HLN.out ts HM3.out.1; have h3 := hik; have h4 : i * 65537 ≤ 65536 * 65537 := Nat.mul_le_mul_right _ hik; omega) HS3.out.be.size ?_
                    intro v4 w4 r4 g4
                    obtain ⟨a4, n4, c4, rfl⟩ := r4.sl
                    have HPU := hid (HS3.out.push HL0.out HM3.out.1 HM3.out.2 (HLN.out ts HM3.out.1) r4 g4)
                    have HKO := hid (keeps_toks HS3.out.own g4)
                    have hc4 := (boxed_grown HS3.out.bx (by decide) HS3.out.own g4).cell
                    have hf4 := (boxed_grown HS3.out.bx (by decide) HS3.out.own g4).frozen
                    clear r4 g4
                    refine hK _ _ ?_
                    clear hK K
                    refine wpAnyIn_ready (rs := [5]) (by kernel_rfl) (by simp) ?_
                    refine AllReadyIn.cons rfl (fun K hK => ?_) ?_
                    · go_simp
                      refine hK _ _ ?_
                      clear hK K
                      refine wpAnyIn_done (by kernel_rfl) ?_ _
                      gi_wp2
                      exact ⟨HKW.out.trans (((keeps_below HB3.out).trans HKO.out).trans (KeepsOthers.setCell _ _ _)), _, _, HPU.out⟩
                    exact AllReadyIn.nil
                  exact AllReadyIn.nil
                exact AllReadyIn.nil
              exact AllReadyIn.nil
            refine AllReadyIn.cons rfl (fun K hK => ?_) ?_
            · go_simp
              refine hK _ _ ?_
              clear hK K
              refine wpAnyIn_ready (rs := [0, 3]) (by kernel_rfl) (by simp) ?_
              refine AllReadyIn.cons rfl (fun K hK => ?_) ?_
              · go_simp
                refine hK _ _ ?_
                clear hK K
                refine wpAnyIn_ready (rs := [3]) (by kernel_rfl) (by simp) ?_
                refine AllReadyIn.cons rfl (fun K hK => ?_) ?_
                · go_simp
                  refine ⟨trivial, ?_⟩
                  refine (CallsIn.inRound lp (callsIn_wide.2 HTK.out)).mono ?_
                  rintro e w3 ⟨⟨v3, ts, r3, m3, p3, rfl⟩, B3⟩
                  have HS3 := hid (HS2.out.below B3)
                  have HM3 := hid (And.intro m3 p3)
                  have HR3 := hid r3
                  obtain ⟨a3, n3, c3, rfl⟩ := r3.sl
                  have hc3 := HS3.out.bx.cell
                  have HB3 := hid B3
                  clear r3 m3 p3 B3
                  refine hK _ _ ?_
                  clear hK K
                  refine wpAnyIn_ready (rs := [4]) (by kernel_rfl) (by simp) ?_
                  refine AllReadyIn.cons rfl (fun K hK => ?_) ?_
                  · refine stepIn_toks rfl _ _ rfl w.heap.size _ o rfl HS3.out.own _ ts rfl HR3.out.at (by have h1 := HS3.out.len; have h2 := HLN.out ts HM3.out.1; have h3 := hik; have h4 : i * 65537 ≤ 65536 * 65537 := Nat.mul_le_mul_right _ hik; omega) HS3.out.be.size ?_
                    intro v4 w4 r4 g4
                    obtain ⟨a4, n4, c4, rfl⟩ := r4.sl
                    have HPU := hid (HS3.out.push HL0.out HM3.out.1 HM3.out.2 (HLN.out ts HM3.out.1) r4 g4)
                    have HKO := hid (keeps_toks HS3.out.own g4)
                    have hc4 := (boxed_grown HS3.out.bx (by decide) HS3.out.own g4).cell
                    have hf4 := (boxed_grown HS3.out.bx (by decide) HS3.out.own g4).frozen
                    clear r4 g4
                    refine hK _ _ ?_
                    clear hK K
                    refine wpAnyIn_ready (rs := [5]) (by kernel_rfl) (by simp) ?_
                    refine AllReadyIn.cons rfl (fun K hK => ?_) ?_
                    · go_simp
                      refine hK _ _ ?_
                      clear hK K
                      refine wpAnyIn_done (by kernel_rfl) ?_ _
                      gi_wp2
                      exact ⟨HKW.out.trans (((keeps_below HB3.out).trans HKO.out).trans (KeepsOthers.setCell _ _ _)), _, _, HPU.out⟩
                    exact AllReadyIn.nil
                  exact AllReadyIn.nil
                exact AllReadyIn.nil
              refine AllReadyIn.cons rfl (fun K hK => ?_) ?_
              · go_simp
                refine ⟨trivial, ?_⟩
                refine (CallsIn.inRound lp (callsIn_wide.2 HTK.out)).mono ?_
                rintro e w3 ⟨⟨v3, ts, r3, m3, p3, rfl⟩, B3⟩
                have HS3 := hid (HS2.out.below B3)
                have HM3 := hid (And.intro m3 p3)
                have HR3 := hid r3
                obtain ⟨a3, n3, c3, rfl⟩ := r3.sl
                have hc3 := HS3.out.bx.cell
                have HB3 := hid B3
                clear r3 m3 p3 B3
                refine hK _ _ ?_
                clear hK K
                refine wpAnyIn_ready (rs := [0]) (by kernel_rfl) (by simp) ?_
                refine AllReadyIn.cons rfl (fun K hK => ?_) ?_
                · go_simp
                  refine hK _ _ ?_
                  clear hK K
                  refine wpAnyIn_ready (rs := [4]) (by kernel_rfl) (by simp) ?_
                  refine AllReadyIn.cons rfl (fun K hK => ?_) ?_
                  · refine stepIn_toks rfl _ _ rfl w.heap.size _ o rfl HS3.out.own _ ts rfl HR3.out.at (by have h1 := HS3.out.len; have h2 := HLN.out ts HM3.out.1; have h3 := hik; have h4 : i * 65537 ≤ 65536 * 65537 := Nat.mul_le_mul_right _ hik; omega) HS3.out.be.size ?_
                    intro v4 w4 r4 g4
                    obtain ⟨a4, n4, c4, rfl⟩ := r4.sl
                    have HPU := hid (HS3.out.push HL0.out HM3.out.1 HM3.out.2 (HLN.out ts HM3.out.1) r4 g4)
                    have HKO := hid (keeps_toks HS3.out.own g4)
                    have hc4 := (boxed_grown HS3.out.bx (by decide) HS3.out.own g4).cell
                    have hf4 := (boxed_grown HS3.out.bx (by decide) HS3.out.own g4).frozen
                    clear r4 g4
                    refine hK _ _ ?_
                    clear hK K
                    refine wpAnyIn_ready (rs := [5]) (by kernel_rfl) (by simp) ?_
                    refine AllReadyIn.cons rfl (fun K hK => ?_) ?_
                    · go_simp
                      refine hK _ _ ?_
                      clear hK K
                      refine wpAnyIn_done (by kernel_rfl) ?_ _
                      gi_wp2
                      exact ⟨HKW.out.trans (((keeps_below HB3.out).trans HKO.out).trans (KeepsOthers.setCell _ _ _)), _, _, HPU.out⟩
                    exact AllReadyIn.nil
                  exact AllReadyIn.nil
                exact AllReadyIn.nil
              exact AllReadyIn.nil
            exact AllReadyIn.nil
          refine AllReadyIn.cons rfl (fun K hK => ?_) ?_
          · go_simp
            refine hK _ _ ?_
            clear hK K
            refine wpAnyIn_ready (rs := [0, 1]) (by kernel_rfl) (by simp) ?_
            refine AllReadyIn.cons rfl (fun K hK => ?_) ?_
            · go_simp
              refine hK _ _ ?_
              clear hK K
              refine wpAnyIn_ready (rs := [1]) (by kernel_rfl) (by simp) ?_
              refine AllReadyIn.cons rfl (fun K hK => ?_) ?_
              · go_simp
                refine hK _ _ ?_
                clear hK K
                refine wpAnyIn_ready (rs := [3]) (by kernel_rfl) (by simp) ?_
                refine AllReadyIn.cons rfl (fun K hK => ?_) ?_
                · go_simp
                  refine ⟨trivial, ?_⟩
                  refine (CallsIn.inRound lp (callsIn_wide.2 HTK.out)).mono ?_
                  rintro e w3 ⟨⟨v3, ts, r3, m3, p3, rfl⟩, B3⟩
                  have HS3 := hid (HS2.out.below B3)
                  have HM3 := hid (And.intro m3 p3)
                  have HR3 := hid r3
                  obtain ⟨a3, n3, c3, rfl⟩ := r3.sl
                  have hc3 := HS3.out.bx.cell
                  have HB3 := hid B3
                  clear r3 m3 p3 B3
                  refine hK _ _ ?_
                  clear hK K
                  refine wpAnyIn_ready (rs := [4]) (by kernel_rfl) (by simp) ?_
                  refine AllReadyIn.cons rfl (fun K hK => ?_) ?_
                  · refine stepIn_toks rfl _ _ rfl w.heap.size _ o rfl HS3.out.own _ ts rfl HR3.out.at (by have h1 := HS3.out.len; have h2 := HLN.out ts HM3.out.1; have h3 := hik; have h4 : i * 65537 ≤ 65536 * 65537 := Nat.mul_le_mul_right _ hik; omega) HS3.out.be.size ?_
                    intro v4 w4 r4 g4
                    obtain ⟨a4, n4, c4, rfl⟩ := r4.sl
                    have HPU := hid (HS3.out.push HL0.out HM3.out.1 HM3.out.2 (HLN.out ts HM3.out.1) r4 g4)
                    have HKO := hid (keeps_toks HS3.out.own g4)
                    have hc4 := (boxed_grown HS3.out.bx (by decide) HS3.out.own g4).cell
                    have hf4 := (boxed_grown HS3.out.bx (by decide) HS3.out.own g4).frozen
                    clear r4 g4
                    refine hK _ _ ?_
                    clear hK K
                    refine wpAnyIn_ready (rs := [5]) (by kernel_rfl) (by simp) ?_
                    refine AllReadyIn.cons rfl (fun K hK => ?_) ?_
                    · go_simp
                      refine hK _ _ ?_
                      clear hK K
                      refine wpAnyIn_done (by kernel_rfl) ?_ _
                      gi_wp2
                      exact ⟨HKW.out.trans (((keeps_below HB3.out).trans HKO.out).trans (KeepsOthers.setCell _ _ _)), _, _, HPU.out⟩
                    exact AllReadyIn.nil
                  exact AllReadyIn.nil
                exact AllReadyIn.nil
              exact AllReadyIn.nil
            refine AllReadyIn.cons rfl (fun K hK => ?_) ?_
            · go_simp
              refine hK _ _ ?_
              clear hK K
              refine wpAnyIn_ready (rs := [0, 3]) (by kernel_rfl) (by simp) ?_
              refine AllReadyIn.cons rfl (fun K hK => ?_) ?_
              · go_simp
                refine hK _ _ ?_
                clear hK K
                refine wpAnyIn_ready (rs := [3]) (by kernel_rfl) (by simp) ?_
                refine AllReadyIn.cons rfl (fun K hK => ?_) ?_
                · go_simp
                  refine ⟨trivial, ?_⟩
                  refine (CallsIn.inRound lp (callsIn_wide.2 HTK.out)).mono ?_
                  rintro e w3 ⟨⟨v3, ts, r3, m3, p3, rfl⟩, B3⟩
                  have HS3 := hid (HS2.out.below B3)
                  have HM3 := hid (And.intro m3 p3)
                  have HR3 := hid r3
                  obtain ⟨a3, n3, c3, rfl⟩ := r3.sl
                  have hc3 := HS3.out.bx.cell
                  have HB3 := hid B3
                  clear r3 m3 p3 B3
                  refine hK _ _ ?_
                  clear hK K
                  refine wpAnyIn_ready (rs := [4]) (by kernel_rfl) (by simp) ?_
                  refine AllReadyIn.cons rfl (fun K hK => ?_) ?_
                  · refine stepIn_toks rfl _ _ rfl w.heap.size _ o rfl HS3.out.own _ ts rfl HR3.out.at (by have h1 := HS3.out.len; have h2 := HLN.out ts HM3.out.1; have h3 := hik; have h4 : i * 65537 ≤ 65536 * 65537 := Nat.mul_le_mul_right _ hik; omega) HS3.out.be.size ?_
                    intro v4 w4 r4 g4
                    obtain ⟨a4, n4, c4, rfl⟩ := r4.sl
                    have HPU := hid (HS3.out.push HL0.out HM3.out.1 HM3.out.2 (HLN.out ts HM3.out.1) r4 g4)
                    have HKO := hid (keeps_toks HS3.out.own g4)
                    have hc4 := (boxed_grown HS3.out.bx (by decide) HS3.out.own g4).cell
                    have hf4 := (boxed_grown HS3.out.bx (by decide) HS3.out.own g4).frozen
                    clear r4 g4
                    refine hK _ _ ?_
                    clear hK K
                    refine wpAnyIn_ready (rs := [5]) (by kernel_rfl) (by simp) ?_
                    refine AllReadyIn.cons rfl (fun K hK => ?_) ?_
                    · go_simp
                      refine hK _ _ ?_
                      clear hK K
                      refine wpAnyIn_done (by kernel_rfl) ?_ _
                      gi_wp2
                      exact ⟨HKW.out.trans (((keeps_below HB3.out).trans HKO.out).trans (KeepsOthers.setCell _ _ _)), _, _, HPU.out⟩
                    exact AllReadyIn.nil
                  exact AllReadyIn.nil
                exact AllReadyIn.nil
              refine AllReadyIn.cons rfl (fun K hK => ?_) ?_
              · go_simp
                refine ⟨trivial, ?_⟩
                refine (CallsIn.inRound lp (callsIn_wide.2 HTK.out)).mono ?_
                rintro e w3 ⟨⟨v3, ts, r3, m3, p3, rfl⟩, B3⟩
                have HS3 := hid (HS2.out.below B3)
                have HM3 := hid (And.intro m3 p3)
                have HR3 := hid r3
                obtain ⟨a3, n3, c3, rfl⟩ := r3.sl
                have hc3 := HS3.out.bx.cell
                have HB3 := hid B3
                clear r3 m3 p3 B3
                refine hK _ _ ?_
                clear hK K
                refine wpAnyIn_ready (rs := [0]) (by kernel_rfl) (by simp) ?_
                refine AllReadyIn.cons rfl (fun K hK => ?_) ?_
                · go_simp
                  refine hK _ _ ?_
                  clear hK K
                  refine wpAnyIn_ready (rs := [4]) (by kernel_rfl) (by simp) ?_
                  refine AllReadyIn.cons rfl (fun K hK => ?_) ?_
                  · refine stepIn_toks rfl _ _ rfl w.heap.size _ o rfl HS3.out.own _ ts rfl HR3.out.at (by have h1 := HS3.out.len; have h2 := HLN.out ts HM3.out.1; have h3 := hik; have h4 : i * 65537 ≤ 65536 * 65537 := Nat.mul_le_mul_right _ hik; omega) HS3.out.be.size ?_
                    intro v4 w4 r4 g4
                    obtain ⟨a4, n4, c4, rfl⟩ := r4.sl
                    have HPU := hid (HS3.out.push HL0.out HM3.out.1 HM3.out.2 (HLN.out ts HM3.out.1) r4 g4)
                    have HKO := hid (keeps_toks HS3.out.own g4)
                    have hc4 := (boxed_grown HS3.out.bx (by decide) HS3.out.own g4).cell
                    have hf4 := (boxed_grown HS3.out.bx (by decide) HS3.out.own g4).frozen
                    clear r4 g4
                    refine hK _ _ ?_
                    clear hK K
                    refine wpAnyIn_ready (rs := [5]) (by kernel_rfl) (by simp) ?_
                    refine AllReadyIn.cons rfl (fun K hK => ?_) ?_
                    · go_simp
                      refine hK _ _ ?_
                      clear hK K
                      refine wpAnyIn_done (by kernel_rfl) ?_ _
                      gi_wp2
                      exact ⟨HKW.out.trans (((keeps_below HB3.out).trans HKO.out).trans (KeepsOthers.setCell _ _ _)), _, _, HPU.out⟩
                    exact AllReadyIn.nil
                  exact AllReadyIn.nil
                exact AllReadyIn.nil
              exact AllReadyIn.nil
            exact AllReadyIn.nil
          exact AllReadyIn.nil
  case done =>
    rintro D W hD ⟨v, o, hS⟩ hK
    rw [List.drop_length] at hS
    have hRo := hS.go
    rw [lexP] at hRo
    obtain ⟨a0, n0, c0, hv0⟩ := hS.own.sl
    subst hv0
    have c1 := hS.bx.cell
    have f1 := hS.bx.frozen
    have hS2 := hS.bx.set (.slice a0 n0 c0)
    have hF2 := hS.fb.set hS.bx (by decide) (.slice a0 n0 c0)
    have hO2 : TokOwn (W.setCell ⟨w.heap.size, 0, none⟩ (.slice a0 n0 c0)) w.heap.size (.slice a0 n0 c0) o := hS.own.keep (fun g cur hc => by
      have q : W.heap[w.heap.size]? = some (Obj.cells #[.slice a0 n0 c0] 23 (0, 0)) := hS.bx
      refine (Below.heap_setCell _ _ _ _ (fun e => ?_)).trans hc
      rw [e, q] at hc
      injection hc with hc; injection hc with _ hc; exact absurd hc (by decide))
    have hB2 := hS.be.setCell (p := ⟨w.heap.size, 0, none⟩) (Nat.le_refl _) (.slice a0 n0 c0)
    have hK2 := (KeepsOthers.setCell W ⟨w.heap.size, 0, none⟩ (.slice a0 n0 c0)).same D _ hK rfl
    obtain ⟨V, hV⟩ : ∃ V, W.setCell ⟨w.heap.size, 0, none⟩ (.slice a0 n0 c0) = V := ⟨_, rfl⟩
    rw [hV] at hS2 hF2 hO2 hB2 hK2
    obtain ⟨g0, g1, g2⟩ := hF2.cells
    have j0 : V.frozen? ⟨w.heap.size + 1, 0, none⟩ = false := Lib.frozen_of_heap hF2 0
    have j1 : V.frozen? ⟨w.heap.size + 1, 1, none⟩ = false := Lib.frozen_of_heap hF2 1
    have j2 : V.frozen? ⟨w.heap.size + 1, 2, none⟩ = false := Lib.frozen_of_heap hF2 2
    have HQ := hid (And.intro hS2 (And.intro hF2 (And.intro hO2 (And.intro hB2 hK2))))
    have HRo := hid (And.intro hRo hS.pos)
    clear hS hS2 hF2 hO2 hB2 hK2 hK hRo
    refine wpAt_seq (wpAt_of (m := 3) ?_)
    gi_wp2
    refine wpAt_of (m := 3) ?_
    gi_wp2
    obtain ⟨k1, k2, k3, k4, k5⟩ := HQ.out
    obtain ⟨t1, t2, t3⟩ := three k2 0 0 0
    have u2 := t2 _ _ _ k1 (by decide)
    have u3 := t3 w.heap.size w (by omega) k4
    have u5 := (((KeepsOthers.setCell V ⟨w.heap.size + 1, 0, none⟩ (.int .i64 0)).trans (KeepsOthers.setCell _ ⟨w.heap.size + 1, 1, none⟩ (.int .i64 0))).trans (KeepsOthers.setCell _ ⟨w.heap.size + 1, 2, none⟩ (.int .i64 0))).same D _ k5 rfl
    have u4 : TokOwn (((V.setCell ⟨w.heap.size + 1, 0, none⟩ (.int .i64 0)).setCell ⟨w.heap.size + 1, 1, none⟩ (.int .i64 0)).setCell ⟨w.heap.size + 1, 2, none⟩ (.int .i64 0)) w.heap.size (.slice a0 n0 c0) o := k3.keep (fun g cur hc => by
      have hne : g ≠ w.heap.size + 1 := by
        intro e
        have q : V.heap[w.heap.size + 1]? = some (Obj.cells (fcs 0 0 0) 26 (0, 0)) := k2
        rw [e, q] at hc
        injection hc with hc; injection hc with _ hc; exact absurd hc (by decide)
      exact (Below.heap_setCell _ _ _ _ hne).trans ((Below.heap_setCell _ _ _ _ hne).trans ((Below.heap_setCell _ _ _ _ hne).trans hc)))
    obtain ⟨V3, hV3⟩ : ∃ V3, ((V.setCell ⟨w.heap.size + 1, 0, none⟩ (.int .i64 0)).setCell ⟨w.heap.size + 1, 1, none⟩ (.int .i64 0)).setCell ⟨w.heap.size + 1, 2, none⟩ (.int .i64 0) = V3 := ⟨_, rfl⟩
    rw [hV3] at t1 u2 u3 u4 u5 ⊢
    have hP1 : Boxed (V3.putObj D (.deferred none)) w.heap.size 23 (.slice a0 n0 c0) := (World.putObj_heap_other (by omega)).trans u2
    have hP2 : Fb (V3.putObj D (.deferred none)) (w.heap.size + 1) 0 0 0 := (World.putObj_heap_other (by omega)).trans t1
    have hP3 : Below w.heap.size w (V3.putObj D (.deferred none)) := u3.grown (grownBy_putObj' V3 D (.deferred none)) u3.size (fun k e => by cases e; omega)
    have hP4 : TokOwn (V3.putObj D (.deferred none)) w.heap.size (.slice a0 n0 c0) o := u4.keep (fun g cur hc => by
      refine (World.putObj_heap_other (fun e => ?_)).trans hc
      rw [e, u5] at hc; cases hc)
    obtain ⟨hR1, hR2⟩ := HRo.out
    refine ⟨by simp, .inl ⟨_, _, rfl, run_takeDeferred u5, ?_⟩⟩
    refine ⟨by simp, .inr ⟨(fun h => by cases h), .func 14, #[.pointer (some ⟨w.heap.size, 0, none⟩), .pointer (some ⟨w.heap.size + 1, 0, none⟩)], 14, #[.pointer (some ⟨w.heap.size, 0, none⟩), .pointer (some ⟨w.heap.size + 1, 0, none⟩)], rfl, by simp [go_sem], fun _ _ => trivial, ?_⟩⟩
    refine (lex_idle 2 w.heap.size (w.heap.size + 1) _).mono ?_
    rintro en u' w' ⟨rfl, rfl, rfl⟩
    refine ⟨_, lex_results hP1 hP2 ⟨_, _, _, rfl⟩ _ rfl rfl, ?_⟩
    exact ⟨⟨_, o, hP4, by rw [← hR1], hR2, by rw [← hR1] <;> rfl⟩, hP3⟩
  case pan =>
    rintro D ch W hD ⟨e, l, a, rfl, hRR, ⟨v, hv, hbx⟩, hfb, hbe⟩ hK
    have hlt : w.heap.size + 1 < D := by omega
    have hP1 : Boxed (W.putObj D (.deferred none)) w.heap.size 23 v := (World.putObj_heap_other (by omega)).trans hbx
    have hP2 : Fb (W.putObj D (.deferred none)) (w.heap.size + 1) 0 0 0 := (World.putObj_heap_other (by omega)).trans hfb
    have hP3 : Below w.heap.size w (W.putObj D (.deferred none)) := hbe.grown (grownBy_putObj' W D (.deferred none)) hbe.size (fun k e => by cases e; omega)
    refine ⟨by simp, .inl ⟨_, _, rfl, run_takeDeferred hK, ?_⟩⟩
    refine ⟨by simp, .inr ⟨(fun h => by cases h), .func 14, #[.pointer (some ⟨w.heap.size, 0, none⟩), .pointer (some ⟨w.heap.size + 1, 0, none⟩)], 14, #[.pointer (some ⟨w.heap.size, 0, none⟩), .pointer (some ⟨w.heap.size + 1, 0, none⟩)], rfl, by simp [go_sem], fun _ _ => trivial, ?_⟩⟩
    refine (lex_caught 2 w.heap.size w.heap.size (w.heap.size + 1) (Nat.le_refl _) (by omega) v e l a 0 0 0 _ hP1 hP2 hv).mono ?_
    rintro en u' w' ⟨rfl, rfl, h1, h2, h3⟩
    refine ⟨_, lex_results h1 h2 ⟨_, _, _, rfl⟩ _ rfl rfl, ?_⟩
    exact ⟨⟨_, [], TokOwn.nil _ _, by rw [hRR]; rfl, fun t ht => (by cases ht), by rw [hRR]⟩, hP3.trans h3⟩
set_option maxRecDepth 100000 in
set_option maxHeartbeats 4000000 in
theorem lex_long (s : ByteArray) (hs : 65536 < s.size) (hs2 : s.size ≤ 1000000) (w : World) : Calls Tryz.prog 6 #[.string s] w fun e W' => LnR ([], 4, 0, 0) w.heap.size e W' ∧ Below w.heap.size w W' := by
  have hmf : ∀ (fn : Fn) (first cap : Array Value) (w : World), (Instr.makeFunc fn first cap).run Tryz.prog w = .ok (.func fn first cap) w := fun _ _ _ _ => rfl
  refine calls_of_wpAt (m := 3) Tryz.func6 rfl ?_
  simp only [Tryz.ntmps6, List.size_toArray, List.length_cons, List.length_nil, Nat.reduceAdd, Nat.reduceSub, Array.replicate_succ, Array.replicate_zero, List.push_toArray, List.append_toArray, List.nil_append, List.cons_append]
  refine wpAt_seq (wpAt_of (m := 3) ?_)
  gi_wp2
  refine wpAt_seq (wpAt_of (m := 3) ?_)
  gi_wp2
  have hgt : (65536 : Int) < (s.size : Int) := by omega
  refine wpAt_seq (wpAt_of (m := 3) ?_)
  gi_wp2
  have bL := (Boxed.new w 23 (.slice none 0 0)).alloc (.cells (fcs 0 0 0) 26)
  have bF : Fb ((w.alloc (.cells #[.slice none 0 0] 23)).alloc (.cells (fcs 0 0 0) 26)) (w.heap.size + 1) 0 0 0 := by
    have h := heap_alloc_new (w.alloc (.cells #[.slice none 0 0] 23)) (.cells (fcs 0 0 0) 26)
    rw [World.size_alloc] at h
    exact h
  have hb0 : Below w.heap.size w ((w.alloc (.cells #[.slice none 0 0] 23)).alloc (.cells (fcs 0 0 0) 26)) := ((Below.refl _ w).alloc (Nat.le_refl _) _).alloc (by simp) _
  refine ⟨by simp, .inr ⟨(fun h => by cases h), .func 14, #[.pointer (some ⟨w.heap.size, 0, none⟩), .pointer (some ⟨w.heap.size + 1, 0, none⟩)], 14, #[.pointer (some ⟨w.heap.size, 0, none⟩), .pointer (some ⟨w.heap.size + 1, 0, none⟩)], rfl, by simp [go_sem], fun _ _ => trivial, ?_⟩⟩
  refine (lex_caught 2 w.heap.size w.heap.size (w.heap.size + 1) (Nat.le_refl _) (by omega) (.slice none 0 0) 4 0 0 0 0 0 _ bL bF ⟨_, _, _, rfl⟩).mono ?_
  rintro en u' w' ⟨rfl, rfl, h1, h2, h3⟩
  refine ⟨_, lex_results h1 h2 ⟨_, _, _, rfl⟩ _ rfl rfl, ?_⟩
  exact ⟨⟨_, [], TokOwn.nil _ _, rfl, fun t ht => (by cases ht), rfl⟩, hb0.trans h3⟩
theorem lex_any (s : ByteArray) (hs : s.size ≤ 1000000) (w : World) (G : Gl w) : Calls Tryz.prog 6 #[.string s] w fun e W' => LnR (lex (bn s)) w.heap.size e W' ∧ Below w.heap.size w W' := by
  have e1 : lex (bn s) = if 65536 < s.size then ([], 4, 0, 0) else lexP (rows (bn s) 1) [] := by
    unfold lex
    rw [bn_length]
    split
    · rfl
    · have h := lexF_P s.size (bn s) [] 1 (by rw [bn_length]; omega)
      rw [bn_length] at h
      exact h
  rw [e1]
  by_cases h : 65536 < s.size
  · rw [if_pos h]; exact lex_long s h hs w
  · rw [if_neg h]; exact lex_short s (by omega) w G
end Go.Proofs.YtphkdagapoonjaaGreatDoor.Lx
