/- A reader of heads in memory. (Stage 19.) -/
import Derived.Test.YtacbfbhhhofifaaDoorHPC
import Derived.Test.YtacbfbhhhofifaaDoorHPB
import Derived.Test.YtacbfbhhhofifaaDoorHRG
import Derived.Laws.CopyOwn
namespace Go.Proofs.YtacbfbhhhofifaaDoor.Hd
open Go.RowKit
open Go.Proofs.YtacbfbhhhofifaaDoor.F (bn bn_length bn_append bn_inj bn_get byte_bd hid bn_extract isEmpty_false isEmpty_true str_eq same_eq)
set_option linter.unusedVariables false

/-! ### Bytes that a reader owns -/
def bys (l : List Int) : List Value := l.map (Value.int .u8)
theorem bys_len (l : List Int) : (bys l).length = l.length := by simp [bys]
theorem bys_app (a b : List Int) : bys (a ++ b) = bys a ++ bys b := by simp [bys]
theorem bys_one (l : List Int) : ∀ u ∈ bys l, u.oneCell' = true := by
  intro u hu
  obtain ⟨c, _, rfl⟩ := List.mem_map.1 hu
  rfl
def LnOwn (W : World) (base : Nat) (v : Value) (l : List Int) : Prop := W.ownsRow base 5 1 v l.length (bys l)
theorem LnOwn.nil (w : World) (base : Nat) : LnOwn w base (.slice none 0 0) [] := World.ownsRow_nil _ _ _ _
theorem LnOwn.form {w : World} {base : Nat} {v : Value} {l : List Int} (h : LnOwn w base v l) : ∃ a cap, v = .slice a l.length cap := by
  rcases h.2 with ⟨rfl, h0⟩ | ⟨g, cap, cur, rfl, _⟩
  · exact ⟨none, 0, by rw [h0]⟩
  · exact ⟨_, cap, rfl⟩
theorem LnOwn.keep {w w' : World} {base : Nat} {v : Value} {l : List Int} (h : LnOwn w base v l) (hk : ∀ (g : Nat) (cur : Array Value), base ≤ g → w.heap[g]? = some (.cells cur 5 (0, 0)) → w'.heap[g]? = w.heap[g]?) : LnOwn w' base v l := by
  refine ⟨h.1, ?_⟩
  rcases h.2 with h | ⟨g, cap, cur, e, h1, h2, h3⟩
  · exact .inl h
  · exact .inr ⟨g, cap, cur, e, h1, (hk g cur h1 h2).trans h2, h3⟩
theorem LnOwn.below {w W : World} {base : Nat} {v : Value} {l : List Int} (h : LnOwn w base v l) (hb : Below w.heap.size w W) : LnOwn W base v l :=
  h.keep fun g cur _ hg => hb.block g (Array.getElem?_eq_some_iff.1 hg).1
theorem LnOwn.own {w : World} {base : Nat} {v : Value} {l : List Int} (h : LnOwn w base v l) : ∀ g, v.ownBlock = some g → base ≤ g ∧ ∃ cur, w.heap[g]? = some (.cells cur 5 (0, 0)) := by
  intro g hg
  rcases h.2 with ⟨rfl, _⟩ | ⟨g', cap, cur, rfl, h1, h2, h3⟩
  · simp [Value.ownBlock] at hg
  · simp [Value.ownBlock] at hg
    subst hg
    exact ⟨h1, cur, h2⟩
/-- Cut to nothing. -/
theorem LnOwn.cut0 {w : World} {base : Nat} {a : Option Addr} {n cap : Nat} {l : List Int} (h : LnOwn w base (.slice a n cap) l) : LnOwn w base (.slice a 0 cap) [] := by
  rcases h.2 with ⟨e, _⟩ | ⟨g, cap', cur, e, h1, h2, h3, h4, h5, h6⟩
  · cases e; exact LnOwn.nil w base
  · cases e
    exact ⟨rfl, .inr ⟨g, cap, cur, rfl, h1, h2, Nat.zero_le _, h4, h5, by simp [bys]⟩⟩
theorem FldOwn.keepT {w w' : World} {base : Nat} {v : Value} {l : List Fb} (h : FldOwn w base v l) (hk : ∀ (g : Nat) (cur : Array Value), base ≤ g → w.heap[g]? = some (.cells cur 40 (0, 0)) → w'.heap[g]? = w.heap[g]?) : FldOwn w' base v l := by
  refine ⟨h.1, ?_⟩
  rcases h.2 with h | ⟨g, cap, cur, e, h1, h2, h3⟩
  · exact .inl h
  · exact .inr ⟨g, cap, cur, e, h1, (hk g cur h1 h2).trans h2, h3⟩
theorem addr0 (g j : Nat) : ((⟨g, 0, none⟩ : Addr).add j) = ⟨g, j, none⟩ := by simp [Addr.add]; exact fun h => h.symm
/-- Owned bytes as a text. -/
theorem LnOwn.text {w : World} {base : Nat} {v : Value} {l : List Int} (h : LnOwn w base v l) (hb : ∀ x ∈ l, 0 ≤ x ∧ x ≤ 255) :
    ∃ t : ByteArray, (convert 38 9 v).run Tryd.prog w = .ok (.string t) w ∧ bn t = l := by
  rcases id h.2 with ⟨rfl, h0⟩ | ⟨g, cap, cur, rfl, _⟩
  · refine ⟨⟨#[]⟩, ?_, ?_⟩
    · rw [run_convert_bytes_string w 38 9 5 none 0 0 Tryd.underlying38 Tryd.underlying5 Tryd.underlying9]
      simp [Conv.bytesToString]
      rfl
    · rw [List.length_eq_zero_iff.1 h0]; rfl
  · refine ⟨⟨(l.map fun n => UInt8.ofNat n.toNat).toArray⟩, ?_, ?_⟩
    · have := run_convert_bytes_back (P := Tryd.prog) w 38 9 5 ⟨g, 0, none⟩ cap (l.map fun n => UInt8.ofNat n.toNat) Tryd.underlying38 Tryd.underlying5 Tryd.underlying9 (by
        intro j hj
        have hj' : j < l.length := by simpa using hj
        rw [addr0, World.ownsRow.cellAt h j (by omega)]
        have hbj := hb l[j] (List.getElem_mem hj')
        unfold bys
        rw [List.getElem?_map, List.getElem?_eq_getElem hj']
        simp only [Option.map_some, List.getElem_map, UInt8.toNat_ofNat']
        congr 2
        omega)
      rw [List.length_map] at this
      exact this
    · unfold bn
      simp only
      rw [List.map_map]
      conv => rhs; rw [← List.map_id l]
      apply List.map_congr_left
      intro x hx
      have := hb x hx
      simp; omega
theorem infoU : (Tryd.prog.info? 5).map (fun i => (i.zero, i.size, i.bytes)) = some (some (.int .u8 0), 1, 1) := by kernel_rfl
/-- One byte more. -/
theorem wpList_append_byte {w : World} {ops : Array Oper} {rest : List Oper} {o : Oper} {a : Act} {Q : Exit → Act → World → Prop} (hgd : o.guard = none) (s x : Operand)
    (ho : o.op = .call { callee := .builtin .append, args := #[s, x], argTypes := #[38, 38] }) (base : Nat) (v : Value) (l : List Int) (hs : a.eval s = v) (hown : LnOwn w base v l)
    (g : Nat) (c : Int) (hx : a.eval x = .slice (some ⟨g, 0, none⟩) 1 1) (hu : w.cell? ⟨g, 0, none⟩ = some (.int .u8 c)) (hbd : l.length ≤ 1000000) (hbase : base ≤ w.heap.size)
    (h : ∀ v' w', LnOwn w' base v' (l ++ [c]) → w.grownBy w' v.ownBlock → wpList Tryd.prog ops Q rest (a.put o.dst v') w') : wpList Tryd.prog ops Q (o :: rest) a w := by
  obtain ⟨i0, hi, hz0, hz1, hz2⟩ := info_parts infoU
  refine wpList_append_own w hgd s x 38 ho base 5 i0 (.int .u8 0) 1 1 Tryd.underlying38 hi hz0 hz1 hz2 rfl (by decide) v l.length _ hs hown ⟨g, 0, none⟩ 1 1 [.int .u8 c] hx rfl ?_ (fun u hu => by rw [List.mem_singleton.1 hu]; rfl) (by unfold maxLen; omega) (by omega) hbase (fun v' w' h1 h2 _ => h v' w' (by unfold LnOwn; rw [bys_app, List.length_append]; exact h1) h2)
  intro j y hj
  obtain rfl : j = 0 := by have := (List.getElem?_eq_some_iff.1 hj).1; simp at this; omega
  rw [addr0, hu]
  simpa using hj
/-- Nothing below changes, nor any block of another type. -/
structure Bel (base : Nat) (W W' : World) : Prop where
  lo : Below base W W'
  no : ∀ (g : Nat) (cs : Array Value) (t : TypeId) (fr : Nat × Nat), W.heap[g]? = some (.cells cs t fr) → t ≠ 62 → t ≠ 5 → t ≠ 40 → W'.heap[g]? = W.heap[g]?
theorem Bel.refl (base : Nat) (W : World) : Bel base W W := ⟨Below.refl _ _, fun _ _ _ _ _ _ _ _ => rfl⟩
theorem Bel.trans {base : Nat} {a b c : World} (h : Bel base a b) (k : Bel base b c) : Bel base a c :=
  ⟨h.lo.trans k.lo, fun g cs t fr hg h1 h2 h3 => (k.no g cs t fr ((h.no g cs t fr hg h1 h2 h3).trans hg) h1 h2 h3).trans (h.no g cs t fr hg h1 h2 h3)⟩
theorem _root_.Go.RowKit.Below.bel {base : Nat} {W W' : World} (h : Below W.heap.size W W') (hb : base ≤ W.heap.size) : Bel base W W' :=
  ⟨h.mono hb, fun g _ _ _ hg _ _ _ => h.block g (Array.getElem?_eq_some_iff.1 hg).1⟩
theorem Bel.drew {base : Nat} {a w : World} (h : Bel base a w) : Bel base a w.drew := ⟨h.lo.drew, h.no⟩
theorem bel_type {W : World} {b g : Nat} {cs cu : Array Value} {t u : TypeId} {fr : Nat × Nat} (row : W.heap[b]? = some (.cells cs u (0, 0))) (hg : W.heap[g]? = some (.cells cu t fr)) (h : t ≠ u) : g ≠ b := by
  rintro rfl
  rw [hg] at row
  injection row with h1
  injection h1 with _ h2
  exact h h2
/-! ### The reader's eight cells -/
def rw8 (st wr n : Int) (L : Value) (M T : ByteArray) (v : Int) (F : Value) : Array Value := #[.int .u8 st, .int .i64 wr, .int .i64 n, L, .string M, .string T, .int .u8 v, F]
structure Mem (base : Nat) (W : World) (b : Nat) (st wr n : Int) (L : Value) (M T : ByteArray) (v : Int) (F : Value) (l : List Int) (fs : List Fb) : Prop where
  hb : base ≤ b
  row : W.heap[b]? = some (.cells (rw8 st wr n L M T v F) 62 (0, 0))
  ln : LnOwn W base L l
  fl : FldOwn W base F fs
section
variable {base : Nat} {W : World} {b : Nat} {st wr n : Int} {L : Value} {M T : ByteArray} {v : Int} {F : Value} {l : List Int} {fs : List Fb}
theorem Mem.lt (h : Mem base W b st wr n L M T v F l fs) : b < W.heap.size := (Array.getElem?_eq_some_iff.1 h.row).1
theorem Mem.base_le (h : Mem base W b st wr n L M T v F l fs) : base ≤ W.heap.size := Nat.le_trans h.hb (Nat.le_of_lt h.lt)
theorem Mem.cell (h : Mem base W b st wr n L M T v F l fs) (k : Nat) : W.cell? ⟨b, k, none⟩ = (rw8 st wr n L M T v F)[k]? := cell_of_row _ _ _ _ _ _ h.row
theorem Mem.below {W' : World} (h : Mem base W b st wr n L M T v F l fs) (hb : Below W.heap.size W W') : Mem base W' b st wr n L M T v F l fs :=
  ⟨h.hb, kept h.row hb, h.ln.below hb, h.fl.below hb⟩
theorem Mem.other {cs : Array Value} (h : Mem base W b st wr n L M T v F l fs) : Bel base W (W.setRow b cs) ∧ (∀ L l, LnOwn W base L l → LnOwn (W.setRow b cs) base L l) ∧ (∀ F fs, FldOwn W base F fs → FldOwn (W.setRow b cs) base F fs) ∧ (W.setRow b cs).heap.size = W.heap.size := by
  refine ⟨⟨below_setRow (Below.refl _ _) h.hb _, fun g cu t fr hg h1 _ _ => setRow_other _ _ _ _ (bel_type h.row hg h1)⟩, fun L l hl => hl.keep fun g cur _ hg => setRow_other _ _ _ _ ?_, fun F fs hl => hl.keepT fun g cur _ hg => setRow_other _ _ _ _ ?_, by simp [World.setRow]⟩
  · rintro rfl; have := h.row; rw [hg] at this; injection this with this; injection this with _ this; exact absurd this (by decide)
  · rintro rfl; have := h.row; rw [hg] at this; injection this with this; injection this with _ this; exact absurd this (by decide)
theorem Mem.set (h : Mem base W b st wr n L M T v F l fs) (st' wr' n' : Int) (L' : Value) (M' T' : ByteArray) (v' : Int) (F' : Value) (l' : List Int) (fs' : List Fb) (hl : LnOwn W base L' l') (hf : FldOwn W base F' fs') :
    Mem base (W.setRow b (rw8 st' wr' n' L' M' T' v' F')) b st' wr' n' L' M' T' v' F' l' fs' ∧ Bel base W (W.setRow b (rw8 st' wr' n' L' M' T' v' F')) ∧ (W.setRow b (rw8 st' wr' n' L' M' T' v' F')).heap.size = W.heap.size := by
  obtain ⟨h1, h2, h3, h4⟩ := h.other (cs := rw8 st' wr' n' L' M' T' v' F')
  exact ⟨⟨h.hb, setRow_heap _ _ _ _ _ _ h.row, h2 _ _ hl, h3 _ _ hf⟩, h1, h4⟩
theorem Mem.drew (h : Mem base W b st wr n L M T v F l fs) : Mem base W.drew b st wr n L M T v F l fs := ⟨h.hb, h.row, h.ln.keep (fun _ _ _ _ => rfl), h.fl.keepT (fun _ _ _ _ => rfl)⟩
/-- Behind an append of bytes. -/
theorem Mem.grownL {W' : World} {L' : Value} {l' : List Int} (h : Mem base W b st wr n L M T v F l fs) (hg : W.grownBy W' L.ownBlock) (hl : LnOwn W' base L' l') : W'.heap[b]? = some (.cells (rw8 st wr n L M T v F) 62 (0, 0)) ∧ FldOwn W' base F fs ∧ Bel base W W' := by
  refine ⟨(hg.block b h.lt ?_).trans h.row, h.fl.keepT fun g cur hgb hc => hg.block g (Array.getElem?_eq_some_iff.1 hc).1 ?_, ⟨(Below.refl base W).grown hg h.base_le (fun j ej => (h.ln.own j ej).1), fun g cu t fr hc _ h2 _ => hg.block g (Array.getElem?_eq_some_iff.1 hc).1 (fun e => by obtain ⟨_, cur, hc'⟩ := h.ln.own g e.symm; exact bel_type hc' hc h2 rfl)⟩⟩
  · intro e
    obtain ⟨_, cur, hc⟩ := h.ln.own b e.symm
    have := h.row; rw [hc] at this; injection this with this; injection this with _ this; exact absurd this (by decide)
  · intro e
    obtain ⟨_, cur', hc'⟩ := h.ln.own g e.symm
    rw [hc] at hc'; injection hc' with this; injection this with _ this; exact absurd this (by decide)
/-- Behind an append of fields. -/
theorem Mem.grownF {W' : World} (h : Mem base W b st wr n L M T v F l fs) (hg : W.grownBy W' F.ownBlock) : W'.heap[b]? = some (.cells (rw8 st wr n L M T v F) 62 (0, 0)) ∧ LnOwn W' base L l ∧ Bel base W W' := by
  refine ⟨(hg.block b h.lt ?_).trans h.row, h.ln.keep fun g cur hgb hc => hg.block g (Array.getElem?_eq_some_iff.1 hc).1 ?_, ⟨below_grow (Below.refl base W) h.base_le (Nat.le_refl _) h.fl hg, fun g cu t fr hc _ _ h3 => hg.block g (Array.getElem?_eq_some_iff.1 hc).1 (fun e => by obtain ⟨_, cur, hc'⟩ := h.fl.own g e.symm; exact bel_type hc' hc h3 rfl)⟩⟩
  · intro e
    obtain ⟨_, cur, hc⟩ := h.fl.own b e.symm
    have := h.row; rw [hc] at this; injection this with this; injection this with _ this; exact absurd this (by decide)
  · intro e
    obtain ⟨_, cur', hc'⟩ := h.fl.own g e.symm
    rw [hc] at hc'; injection hc' with this; injection this with _ this; exact absurd this (by decide)
end
/-! ### What is waited for -/
def stN (s : St) : Int := if s.is = true then 3 else if s.blk = true then 2 else 1
/-- A reader that waits for more. -/
structure Liv (base : Nat) (W : World) (b : Nat) (s : St) : Prop where
  ex : ∃ L M T v F fs, Mem base W b (stN s) 0 s.n L M T v F s.cur fs ∧ s.h = ⟨bn M, bn T, v, fs.map Fb.f⟩ ∧ 0 ≤ v ∧ v ≤ 255 ∧ fs.length ≤ 64
  d : s.d = false
  e : s.e = 0
  len : s.cur.length ≤ 4097
  n : s.n ≤ 16384
  by' : ∀ x ∈ s.cur, 0 ≤ x ∧ x ≤ 255
  z : s.is = false → s.h = h0
/-- A reader at its end. -/
def Dne (base : Nat) (W : World) (b : Nat) (s : St) : Prop := ∃ L M T v F fs l, Mem base W b 4 0 s.n L M T v F l fs ∧ s.h = ⟨bn M, bn T, v, fs.map Fb.f⟩ ∧ 0 ≤ v ∧ v ≤ 255 ∧ fs.length ≤ 64
/-- A reader in the midst of what is wrong. -/
def Ruin (base : Nat) (W : World) (b : Nat) (n : Nat) : Prop := ∃ st wr L M T v F l fs, Mem base W b st wr n L M T v F l fs
def faultV (e : Nat) : List PanicEntry := [{ v := .iface 63 (.int .i64 e), recovered := false }]
/-- What came of a byte, or a line. -/
def TkR (base b : Nat) (s : St) (e : Ending) (W : World) : Prop :=
  (s.e ≠ 0 ∧ e = .panicked (faultV s.e) ∧ Ruin base W b s.n) ∨ (s.e = 0 ∧ s.d = false ∧ e = .returned (.tuple #[]) ∧ Liv base W b s) ∨ (s.e = 0 ∧ s.d = true ∧ e = .returned (.tuple #[]) ∧ Dne base W b s)
theorem Liv.below {base : Nat} {W W' : World} {b : Nat} {s : St} (h : Liv base W b s) (hb : Below W.heap.size W W') : Liv base W' b s := by
  obtain ⟨L, M, T, v, F, fs, hm, hr⟩ := h.ex
  exact ⟨⟨L, M, T, v, F, fs, hm.below hb, hr⟩, h.d, h.e, h.len, h.n, h.by', h.z⟩
theorem Dne.below {base : Nat} {W W' : World} {b : Nat} {s : St} (h : Dne base W b s) (hb : Below W.heap.size W W') : Dne base W' b s := by
  obtain ⟨L, M, T, v, F, fs, l, hm, hr⟩ := h
  exact ⟨L, M, T, v, F, fs, l, hm.below hb, hr⟩
/-! ### Plain -/
theorem tok_ascii {l : List Int} (h : tok l = true) : ∀ c ∈ l, c < 128 := by
  unfold tok at h
  rw [Bool.and_eq_true, List.all_eq_true] at h
  intro c hc
  have hx := h.2 c hc
  unfold tc at hx
  simp only [Bool.or_eq_true, decide_eq_true_eq, List.contains_eq_mem, List.mem_cons, sg, List.not_mem_nil, or_false] at hx
  omega
/-- A version's answer. -/
def ver (v : List Int) : Int × Nat := if v.length = 8 ∧ v.take 5 = [72, 84, 84, 80, 47] ∧ v.getD 6 0 = 46 ∧ dig (v.getD 5 0) = true ∧ dig (v.getD 7 0) = true then (if v.getD 5 0 = 49 ∧ v.getD 7 0 ≤ 49 then (v.getD 7 0 - 48, 0) else (0, 192)) else (0, 190)
theorem frst_eq (l : List Int) : frst l =
    let a := l.takeWhile (nb 32)
    let r := (l.dropWhile (nb 32)).drop 1
    let b := r.takeWhile (nb 32)
    let v := (r.dropWhile (nb 32)).drop 1
    if tok a = false ∨ b = [] ∨ b.all vis = false then (h0, 190) else if (ver v).2 = 0 then (⟨a, b, (ver v).1, []⟩, 0) else (h0, (ver v).2) := by
  unfold frst
  simp only
  obtain ⟨a, ha⟩ : ∃ a, l.takeWhile (nb 32) = a := ⟨_, rfl⟩
  obtain ⟨q0, hq0⟩ : ∃ q, l.dropWhile (nb 32) = q := ⟨_, rfl⟩
  rw [ha, hq0]
  obtain ⟨b, hb⟩ : ∃ b, (q0.drop 1).takeWhile (nb 32) = b := ⟨_, rfl⟩
  obtain ⟨q, hq⟩ : ∃ q, (q0.drop 1).dropWhile (nb 32) = q := ⟨_, rfl⟩
  rw [hb, hq]
  by_cases h1 : tok a = false ∨ b = [] ∨ b.all vis = false
  · rw [if_pos (by rcases h1 with h | h | h <;> simp [h]), if_pos h1]
  · rw [if_neg h1]
    by_cases h2 : q0 = [] ∨ q = []
    · have hq2 : q = [] := by
        rcases h2 with h | h
        · rw [h] at hq; exact hq.symm
        · exact h
      rw [if_pos (by rcases h2 with h | h <;> simp [h]), hq2]
      rfl
    · rw [if_neg (by
        rintro (h | h | h | h | h)
        · exact h2 (.inl h)
        · exact h2 (.inr h)
        · exact h1 (.inr (.inl h))
        · exact h1 (.inl h)
        · exact h1 (.inr (.inr h)))]
      unfold ver
      by_cases hv : (q.drop 1).length = 8 ∧ (q.drop 1).take 5 = [72, 84, 84, 80, 47] ∧ (q.drop 1).getD 6 0 = 46 ∧ dig ((q.drop 1).getD 5 0) = true ∧ dig ((q.drop 1).getD 7 0) = true
      · rw [if_pos hv]
        simp only [if_pos hv]
        by_cases hw : (q.drop 1).getD 5 0 = 49 ∧ (q.drop 1).getD 7 0 ≤ 49
        · simp only [if_pos hw]; rfl
        · simp only [if_neg hw]; rfl
      · rw [if_neg hv]
        simp only [if_neg hv]; rfl
end Go.Proofs.YtacbfbhhhofifaaDoor.Hd
