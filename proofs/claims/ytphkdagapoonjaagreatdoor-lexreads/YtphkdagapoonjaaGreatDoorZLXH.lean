/- Plain: one step of a text in quotes, and of a line; A strings.Builder: what it says, how long it is; lex.quoted; A region that draws its order: operations that yield one value in every world and leave it as it is may be taken first, in the order of the text; what stands behind them in a row may do what it likes. (Of no program.). -/
import Derived.Test.YtphkdagapoonjaaGreatDoorZLXE
import Derived.Test.YtphkdagapoonjaaGreatDoorZLPG
import Derived.StillTail
import Derived.Deep.Quiet
namespace Go.Proofs.YtphkdagapoonjaaGreatDoor.Lx
open Go.Proofs.YtphkdagapoonjaaGreatDoor.U (nx enc encs scal Bytes)
set_option linter.unusedVariables false

theorem tx_nil (f : Nat) (t : List Int) (i : Nat) : tx f t [] i = ([], 0, 0) := by cases f <;> rfl
theorem tx_fuel : ∀ (f g : Nat) (t l : List Int) (i : Nat), l.length ≤ f → l.length ≤ g → tx f t l i = tx g t l i
  | f, g, t, [], i, _, _ => by rw [tx_nil, tx_nil]
  | 0, g, t, c :: l, i, h, _ => by simp at h
  | f + 1, 0, t, c :: l, i, _, h => by simp at h
  | f + 1, g + 1, t, c :: l, i, hf, hg => by
    have h1 : l.length ≤ f := by simpa using hf
    have h2 : l.length ≤ g := by simpa using hg
    have hd : ∀ k, (l.drop k).length ≤ l.length := fun k => by rw [List.length_drop]; omega
    rw [tx, tx]
    split
    · rfl
    split
    · exact tx_fuel f g _ _ _ h1 h2
    split
    · rfl
    · exact tx_fuel f g _ _ _ (Nat.le_trans (hd _) h1) (Nat.le_trans (hd _) h2)
/-- One byte, or one escape. -/
theorem tx_at {l : List Int} {i : Nat} {y : Int} (hi : i < l.length) (hy : l[i]?.getD 0 = y) (t : List Int) : tx (l.length - i) t (l.drop i) i =
    if y = 34 then (t, i + 1, 0) else if y ≠ 92 then tx (l.length - (i + 1)) (t ++ [y]) (l.drop (i + 1)) (i + 1)
    else if (es (l.drop i)).2 = 0 then ([], 0, i) else tx (l.length - (i + (es (l.drop i)).2)) (t ++ (es (l.drop i)).1) (l.drop (i + (es (l.drop i)).2)) (i + (es (l.drop i)).2) := by
  have hd : l.drop i = y :: l.drop (i + 1) := by
    rw [List.drop_eq_getElem_cons hi, ← hy, List.getElem?_eq_getElem hi]; rfl
  obtain ⟨f, hf⟩ : ∃ f, l.length - i = f + 1 := ⟨l.length - i - 1, by omega⟩
  have hfe : f = l.length - (i + 1) := by omega
  rw [hf, hd, tx]
  by_cases h34 : y = 34
  · rw [if_pos h34, if_pos h34]
  rw [if_neg h34, if_neg h34]
  by_cases h92 : y ≠ 92
  · rw [if_pos h92, if_pos h92, hfe]
  rw [if_neg h92, if_neg h92]
  by_cases h0 : (es (y :: l.drop (i + 1))).2 = 0
  · rw [if_pos h0, if_pos h0]
  rw [if_neg h0, if_neg h0]
  obtain ⟨q, hq⟩ : ∃ q, (es (y :: l.drop (i + 1))).2 = q + 1 := ⟨(es (y :: l.drop (i + 1))).2 - 1, by omega⟩
  rw [hq, Nat.add_sub_cancel, List.drop_drop, show i + 1 + q = i + (q + 1) by omega]
  exact tx_fuel _ _ _ _ _ (by rw [List.length_drop]; omega) (by rw [List.length_drop]; omega)
/-- What a text in quotes at the front says. -/
def txl (l : List Int) : List Int × Nat × Nat := tx (l.length - 1) [] (l.drop 1) 1
/-- A line's rest, from i on. -/
def lni (l : List Int) (n : Nat) (o : List Tk) (i : Nat) : List Tk × Option Nat := lnF (l.length - i) o (l.drop i) i n
theorem lni_end {l : List Int} {n i : Nat} (h : l.length ≤ i) (o : List Tk) : lni l n o i = (o, none) := by
  unfold lni
  rw [List.drop_eq_nil_of_le h, lnF_nil]
theorem lni_zero (l : List Int) (n : Nat) : lni l n [] 0 = lnF l.length [] l 0 n := by unfold lni; rw [List.drop_zero, Nat.sub_zero]
/-- The word at i. -/
def wrd (l : List Int) (i : Nat) : List Int := (l.drop i).takeWhile nen
theorem lni_at {l : List Int} {n i : Nat} {y : Int} (hi : i < l.length) (hy : l[i]?.getD 0 = y) (o : List Tk) :
    (y = 35 → lni l n o i = (o, none)) ∧ (y = 32 ∨ y = 9 → lni l n o i = lni l n o (i + 1)) ∧ (y = 44 → lni l n o i = lni l n (o ++ [⟨3, [], n, i⟩]) (i + 1)) ∧ (y = 33 → lni l n o i = lni l n (o ++ [⟨4, [], n, i⟩]) (i + 1)) ∧
    (y = 34 → (txl (l.drop i)).2.1 = 0 → lni l n o i = ([], some (i + (txl (l.drop i)).2.2))) ∧ (y = 34 → (txl (l.drop i)).2.1 ≠ 0 → lni l n o i = lni l n (o ++ [⟨2, (txl (l.drop i)).1, n, i⟩]) (i + (txl (l.drop i)).2.1)) ∧
    (en y = false → lni l n o i = lni l n (o ++ [⟨1, wrd l i, n, i⟩]) (i + (wrd l i).length) ∧ 1 ≤ (wrd l i).length) := by
  have hd : l.drop i = y :: l.drop (i + 1) := by
    rw [List.drop_eq_getElem_cons hi, ← hy, List.getElem?_eq_getElem hi]; rfl
  obtain ⟨f, hf⟩ : ∃ f, l.length - i = f + 1 := ⟨l.length - i - 1, by omega⟩
  have hfe : f = l.length - (i + 1) := by omega
  have hlen : (l.drop (i + 1)).length = f := by rw [List.length_drop]; omega
  have htx : txl (l.drop i) = tx ((l.drop (i + 1)).length + 1) [] (l.drop (i + 1)) 1 := by
    unfold txl
    rw [hd]
    exact tx_fuel _ _ _ _ _ (by show (l.drop (i + 1)).length ≤ _; simp) (by show (l.drop (i + 1)).length ≤ _; omega)
  refine ⟨fun h => ?_, fun h => ?_, fun h => ?_, fun h => ?_, fun h h0 => ?_, fun h h0 => ?_, fun h => ?_⟩
  · unfold lni; rw [hf, hd, lnF, if_pos h]
  · unfold lni; rw [hf, hd, lnF, if_neg (by omega), if_pos h, hfe]
  · unfold lni; rw [hf, hd, lnF, if_neg (by omega), if_neg (by omega), if_pos h, hfe]
  · unfold lni; rw [hf, hd, lnF, if_neg (by omega), if_neg (by omega), if_neg (by omega), if_pos h, hfe]
  · rw [htx] at h0 ⊢
    unfold lni
    rw [hf, hd, lnF, if_neg (by omega), if_neg (by omega), if_neg (by omega), if_neg (by omega), if_pos h, if_pos h0]
  · rw [htx] at h0 ⊢
    unfold lni
    rw [hf, hd, lnF, if_neg (by omega), if_neg (by omega), if_neg (by omega), if_neg (by omega), if_pos h, if_neg h0]
    obtain ⟨q, hq⟩ : ∃ q, (tx ((l.drop (i + 1)).length + 1) [] (l.drop (i + 1)) 1).2.1 = q + 1 := ⟨(tx ((l.drop (i + 1)).length + 1) [] (l.drop (i + 1)) 1).2.1 - 1, by omega⟩
    rw [hq, Nat.add_sub_cancel, List.drop_drop, show i + 1 + q = i + (q + 1) by omega]
    exact lnF_fuel _ _ _ _ _ _ (by rw [List.length_drop]; omega) (by rw [List.length_drop]; omega)
  · have hh := en_no h
    have hw : nen y = true := by unfold nen; rw [h]; rfl
    have h1 : 1 ≤ (wrd l i).length := by unfold wrd; rw [hd, List.takeWhile_cons_of_pos hw]; simp
    refine ⟨?_, h1⟩
    have hwl : (wrd l i).length ≤ l.length - i := by
      unfold wrd
      have := dropW_len (p := nen) (l.drop i)
      rw [List.length_drop] at this
      omega
    have e : (l.drop i).dropWhile nen = l.drop (i + (wrd l i).length) := by
      unfold wrd
      rw [← drop_takeW, List.drop_drop]
    unfold lni
    rw [← e]
    unfold wrd
    rw [hf, hd, lnF, if_neg hh.2.2.2.2.2, if_neg (by omega), if_neg hh.2.2.1, if_neg hh.2.2.2.1, if_neg hh.2.2.2.2.1]
    refine lnF_fuel _ _ _ _ _ _ ?_ ?_
    · rw [List.dropWhile_cons_of_pos hw]
      have := dropW_len (p := nen) (l.drop (i + 1))
      omega
    · rw [← hd, e, List.length_drop]
      show _ ≤ l.length - (i + (wrd l i).length)
      exact Nat.le_refl _
/-- A word grows byte by byte. -/
theorem wrd_more {l : List Int} {i j : Nat} (hj : i + j < l.length) (h : ∀ k, k < j → nen (l[i + k]?.getD 0) = true) : (nen (l[i + j]?.getD 0) = false → wrd l i = (l.drop i).take j) := by
  have key : ∀ (j : Nat) (q : List Int), j < q.length → (∀ k, k < j → nen (q[k]?.getD 0) = true) → nen (q[j]?.getD 0) = false → q.takeWhile nen = q.take j := by
    intro j
    induction j with
    | zero =>
      intro q hl _ he
      cases q with
      | nil => simp at hl
      | cons c q => rw [List.takeWhile_cons_of_neg (by have : nen c = false := he; rw [this]; simp)]; rfl
    | succ j ih =>
      intro q hl hd he
      cases q with
      | nil => simp at hl
      | cons c q =>
        rw [List.takeWhile_cons_of_pos (show nen c = true from hd 0 (by omega)), List.take_succ_cons, ih q (by simpa using hl) (fun k hk => hd (k + 1) (by omega)) he]
  intro he
  refine key j (l.drop i) (by rw [List.length_drop]; omega) (fun k hk => by rw [List.getElem?_drop]; exact h k hk) (by rw [List.getElem?_drop]; exact he)
theorem wrd_all {l : List Int} {i j : Nat} (hj : i + j = l.length) (h : ∀ k, k < j → nen (l[i + k]?.getD 0) = true) : wrd l i = (l.drop i).take j := by
  unfold wrd
  rw [List.take_of_length_le (by rw [List.length_drop]; omega)]
  have ha := (takeW_app (p := nen) (g := l.drop i) [] ?_).1
  · rw [List.append_nil] at ha
    rw [ha]; simp
  intro c hc
  obtain ⟨k, hk, rfl⟩ := List.getElem_of_mem hc
  rw [List.length_drop] at hk
  have := h k (by omega)
  rw [← List.getElem?_drop, List.getElem?_eq_getElem (by rw [List.length_drop]; omega)] at this
  exact this
theorem tx_le : ∀ (f : Nat) (t l : List Int) (i : Nat), (tx f t l i).2.1 ≤ i + l.length ∧ (tx f t l i).2.2 ≤ i + l.length
  | 0, t, l, i => by simp [tx]
  | f + 1, t, [], i => by simp [tx]
  | f + 1, t, c :: r, i => by
    rw [tx]
    by_cases h1 : c = 34
    · rw [if_pos h1]; simp only [List.length_cons]; omega
    rw [if_neg h1]
    by_cases h2 : c ≠ 92
    · rw [if_pos h2]
      have h := tx_le f (t ++ [c]) r (i + 1)
      simp only [List.length_cons]; omega
    rw [if_neg h2]
    by_cases h3 : (es (c :: r)).2 = 0
    · rw [if_pos h3]; simp
    rw [if_neg h3]
    have h2' : c = 92 := by omega
    have e := (es_inv (l := c :: r) (by simpa using h2') h3).2
    have h := tx_le f (t ++ (es (c :: r)).1) (r.drop ((es (c :: r)).2 - 1)) (i + (es (c :: r)).2)
    have e3 := e.2.2.1
    have e1 := e.1
    rw [List.length_cons] at e3
    rw [List.length_drop] at h
    rw [List.length_cons]
    omega
theorem txl_le {l : List Int} (h : 0 < l.length) : (txl l).2.1 ≤ l.length ∧ (txl l).2.2 ≤ l.length := by
  have := tx_le (l.length - 1) [] (l.drop 1) 1
  rw [List.length_drop] at this
  unfold txl
  omega
end Go.Proofs.YtphkdagapoonjaaGreatDoor.Lx
namespace Go.Proofs.YtphkdagapoonjaaGreatDoor.Lx
open Go.RowKit
open Go.Proofs.YtphkdagapoonjaaGreatDoor.F (bn bn_length bn_append bn_inj bn_get byte_bd hid bn_extract isEmpty_false isEmpty_true str_eq same_eq)
open Go.Proofs.YtphkdagapoonjaaGreatDoor.U (nx enc encs scal val Bytes)
set_option linter.unusedVariables false

theorem bldX : Builder.Extra Tryz.prog Tryz.l169_ren where
  sizeBuilder := by kernel_rfl
  liesBuilder := by kernel_rfl
  t5 := by kernel_rfl
  a5 := fun w => by kernel_rfl
  z5 := fun w => by kernel_rfl
  v5 := fun w => by kernel_rfl
  infoByte := by kernel_rfl
  cellsByte := by kernel_rfl
  sizeByte := by kernel_rfl
  neB5 := by decide
/-- Numbers that are bytes are those of a string. -/
theorem of_bytes : ∀ {l : List Int}, Bytes l → ∃ q : List UInt8, nn q = l
  | [], _ => ⟨[], rfl⟩
  | c :: l, h => by
    obtain ⟨q, hq⟩ := of_bytes (l := l) (fun x hx => h x (by simp [hx]))
    have hc := h c (by simp)
    refine ⟨c.toNat.toUInt8 :: q, ?_⟩
    show ((c.toNat.toUInt8.toNat : Nat) : Int) :: nn q = _
    rw [hq]
    congr 1
    simp
    omega
theorem baf_below {T e : TypeId} {B b : Nat} {p : Value} {bs : List Value} {W W' : World} (h : Lib.BuilderAtF T e B b p bs W) (hb : Below W.heap.size W W') : Lib.BuilderAtF T e B b p bs W' := by
  have hlt := h.lt
  obtain ⟨hB, v, hv, hown, hne⟩ := h
  exact ⟨hB, v, (hb.block b hlt).trans hv, hown.kept (row := none) ⟨hb.os, hb.tape, hb.output, hb.size, fun k hk _ => hb.block k hk⟩ (Classical.em _), hne⟩
/-- A builder in which these bytes stand. -/
def Bl (B b : Nat) (l : List Int) (w : World) : Prop := BF B b (cl l) w ∧ Bytes l
theorem Bl.below {B b : Nat} {l : List Int} {w W : World} (h : Bl B b l w) (hb : Below w.heap.size w W) : Bl B b l W := ⟨h.1.elim (fun x => .inl (baf_below x hb)) (fun x => .inr (baf_below x hb)), h.2⟩
theorem Bl.alloc {B b : Nat} {l : List Int} {w : World} (h : Bl B b l w) (o : Obj) : Bl B b l (w.alloc o) := ⟨Lib.IsBuilderF.alloc h.1 o, h.2⟩
theorem Bl.new (w : World) : Bl w.heap.size w.heap.size [] (w.alloc (.cells #[.pointer none, .slice none 0 0] 51)) := ⟨Lib.IsBuilderF.of (Lib.fresh_isBuilder _ _ w), fun b hb => by cases hb⟩
theorem bytes_app {a b : List Int} (ha : Bytes a) (hb : Bytes b) : Bytes (a ++ b) := fun x hx => (List.mem_append.1 hx).elim (ha x) (hb x)
theorem bl_byte (B b : Nat) (l : List Int) (c : Int) (h0 : 0 ≤ c) (h1 : c ≤ 255) (w : World) (h : Bl B b l w) (hlen : l.length ≤ 100000000) (hB : B ≤ w.heap.size) :
    Calls Tryz.prog 21 #[.pointer (some ⟨b, 0, none⟩), .int .u8 c] w fun e w' => e = .returned .nilIface ∧ Bl B b (l ++ [c]) w' ∧ Below B w w' ∧ OK b w w' := by
  refine (wb_any B b (cl l) c w h.1 (by rw [cl_len]; omega) hB).mono ?_
  rintro e w' ⟨rfl, h2, h3, h4⟩
  exact ⟨rfl, ⟨.inr (by rw [cl_app]; exact h2), bytes_app h.2 (fun x hx => by rw [List.mem_singleton.1 hx]; exact ⟨h0, h1⟩)⟩, h3, h4⟩
theorem bl_rune (B b : Nat) (l : List Int) (r : Int) (hr : scal r = true) (w : World) (h : Bl B b l w) (hlen : l.length ≤ 100000000) (hB : B ≤ w.heap.size) :
    Calls Tryz.prog 28 #[.pointer (some ⟨b, 0, none⟩), .int .i32 r] w fun e w' => (∃ v, e = .returned v) ∧ Bl B b (l ++ enc r) w' ∧ Below B w w' ∧ OK b w w' := by
  have hs := scal_iff.1 hr
  refine (wrn_any B b (cl l) r (by omega) (by omega) w h.1 (by rw [cl_len]; omega) hB).mono ?_
  rintro e w' ⟨rfl, h2, h3, h4⟩
  refine ⟨⟨_, rfl⟩, ⟨.inr (by rw [cl_app, ← cl_rune hr]; exact h2), bytes_app h.2 (U.enc_bytes r hs.1 hs.2.1)⟩, h3, h4⟩
theorem bl_str (B b : Nat) (l : List Int) (s : ByteArray) (w : World) (h : Bl B b l w) (hlen : l.length ≤ 100000000) (hs : s.size ≤ 100000000) (hB : B ≤ w.heap.size) :
    Calls Tryz.prog 24 #[.pointer (some ⟨b, 0, none⟩), .string s] w fun e w' => (∃ v, e = .returned v) ∧ Bl B b (l ++ bn s) w' ∧ Below B w w' ∧ OK b w w' := by
  refine (ws_any B b (cl l) s w h.1 (by rw [cl_len]; omega) hB).mono ?_
  rintro e w' ⟨rfl, h2, h3, h4⟩
  refine ⟨⟨_, rfl⟩, ⟨.inr (by rw [cl_app, ← cl_str]; exact h2), bytes_app h.2 (U.bn_bytes s)⟩, h3, h4⟩
theorem bl_len (B b : Nat) (l : List Int) (w : World) (h : Bl B b l w) : Calls Tryz.prog 23 #[.pointer (some ⟨b, 0, none⟩)] w fun e w' => e = .returned (.int .i64 l.length) ∧ w' = w := by
  refine Calls.mono (show Calls Tryz.prog 23 #[.pointer (some ⟨b, 0, none⟩)] w _ from Any.Builder_Len_f Tryz.l170 B b (cl l) w h.1) ?_
  rintro e w' ⟨rfl, rfl⟩
  exact ⟨by rw [cl_len], rfl⟩
theorem bl_said (B b : Nat) (l : List Int) (w : World) (h : Bl B b l w) (hB : B ≤ w.heap.size) : Calls Tryz.prog 25 #[.pointer (some ⟨b, 0, none⟩)] w fun e w' => (∃ t, bn t = l ∧ e = .returned (.string t)) ∧ Below B w w' := by
  obtain ⟨q, rfl⟩ := of_bytes h.2
  refine Calls.mono (show Calls Tryz.prog 25 #[.pointer (some ⟨b, 0, none⟩)] w _ from Any.Builder_String_any_k Tryz.l169 bldX B b q w (by rw [cl_byte]; exact h.1) hB) ?_
  rintro e w' ⟨rfl, _, h2, _⟩
  exact ⟨⟨_, bn_arr q, rfl⟩, h2⟩
/-- What quoted answers of the text in quotes that is opened at the byte o. -/
def QuoR (l : List Int) (o n : Nat) (e : Ending) : Prop :=
  ((txl (l.drop o)).2.1 ≠ 0 ∧ ∃ t, bn t = (txl (l.drop o)).1 ∧ e = .returned (.tuple #[.string t, .int .i64 ((o + (txl (l.drop o)).2.1 : Nat) : Int)])) ∨
  ((txl (l.drop o)).2.1 = 0 ∧ e = .panicked (faultV 151 n ((o + (txl (l.drop o)).2.2 : Nat) : Int)))
theorem tx_bytes : ∀ (l : List Int) (k : Nat), (es l).2 ≠ 0 → 0 < l.length → l.getD 0 0 = 92 → (es l).2 ≤ l.length := by
  intro l k h h0 h92
  rcases l with _ | ⟨c, r⟩
  · simp at h0
  have hc : c = 92 := by simpa using h92
  have := es_inv (l := c :: r) (by simpa using hc) h
  exact this.2.2.2.1
set_option maxRecDepth 100000 in
set_option maxHeartbeats 8000000 in
theorem quoted_any (s : ByteArray) (hs : s.size ≤ 1000000) (o : Nat) (ho : o < s.size) (n : Nat) (w : World) (G : Gl w) : Calls Tryz.prog 37 #[.string s, .int .i64 o, .int .i64 n] w fun e W' => QuoR (bn s) o n e ∧ Below w.heap.size w W' := by
  obtain ⟨L, hL⟩ : ∃ L, (bn s).drop o = L := ⟨_, rfl⟩
  have hLl : L.length = s.size - o := by rw [← hL, List.length_drop, bn_length]
  obtain ⟨X, hX⟩ : ∃ X, txl L = X := ⟨_, rfl⟩
  have hQ : ∀ e, (X.2.1 ≠ 0 ∧ ∃ t, bn t = X.1 ∧ e = .returned (.tuple #[.string t, .int .i64 ((o + X.2.1 : Nat) : Int)])) ∨ (X.2.1 = 0 ∧ e = .panicked (faultV 151 n ((o + X.2.2 : Nat) : Int))) → QuoR (bn s) o n e := fun e h => by
    unfold QuoR; rw [hL, hX]; exact h
  have HQ := hid hQ
  have H0 : Hid (tx (L.length - 1) [] (L.drop 1) 1 = X) := by rw [← hX]; rfl
  have HAT := hid (fun i y (t : List Int) (hi : i < L.length) (hy : L[i]?.getD 0 = y) => tx_at hi hy t)
  have HBY : Hid (∀ i p (e : p = o + i) (h : p < s.size), (bn s)[p]?.getD 0 = L[i]?.getD 0) := fun i p e hi => by
    subst e
    rw [← hL, List.getElem?_drop]
  have HGT := hid (bn_get s)
  have HBD := hid (fun j (h : j < s.size) => byte_bd (s := s) h)
  have HBS : Hid (∀ i p, p = o + i → p < s.size → L[i]?.getD 0 = 92 → ∀ W, Below w.heap.size w W → Calls Tryz.prog 52 #[.string (s.extract p s.size)] W fun e W' => BsR (L.drop i) e ∧ Below W.heap.size W W') := fun i p e hi h92 W hW => by
    subst e
    have h := bs_any (s.extract (o + i) s.size) (by simp; omega) (by simp; omega) (by rw [bn_extract, ← List.drop_drop, hL, List.getD_eq_getElem?_getD, List.getElem?_drop]; exact h92) W (G.below hW)
    rw [bn_extract, ← List.drop_drop, hL] at h
    exact h
  have HEN : Hid (∀ i, L.length ≤ i → (∀ t, tx (L.length - i) t (L.drop i) i = ([], 0, 0))) := fun i hi t => by
    rw [List.drop_eq_nil_of_le hi]; exact tx_nil _ _ _
  have HES : Hid (∀ i, i < L.length → L[i]?.getD 0 = 92 → (es (L.drop i)).2 ≠ 0 → i + (es (L.drop i)).2 ≤ L.length ∧ (es (L.drop i)).1.length + 1 ≤ (es (L.drop i)).2) := fun i hi h92 hk => by
    have h9 : (L.drop i).getD 0 0 = 92 := by rw [List.getD_eq_getElem?_getD, List.getElem?_drop]; exact h92
    have h1 := tx_bytes (L.drop i) 0 hk (by rw [List.length_drop]; omega) h9
    rw [List.length_drop] at h1
    exact ⟨by omega, (es_inv h9 hk).2.2.1⟩
  have HLL := hid hLl
  clear hL hX hQ G hLl
  have HB0 := hid ((Below.refl w.heap.size w).alloc (Nat.le_refl _) (.cells #[.pointer none, .slice none 0 0] 51))
  have HN0 := hid (Bl.new w)
  go_enter Tryz.func37, Tryz.ntmps37
  go_wp2
  go_loopw [9] (fun v9 wr => ∃ (p i : Nat) (T : List Int), v9 = .int .i64 (p : Int) ∧ Hid (p = o + i) ∧ p ≤ s.size ∧ 1 ≤ i ∧ T.length ≤ i ∧ Hid (Bl w.heap.size w.heap.size T wr) ∧ Hid (tx (L.length - i) T (L.drop i) i = X) ∧ Hid (Below w.heap.size w wr)) (fun v9 _ => s.size - (intOf v9).toNat)
  case atStart => exact ⟨o + 1, 1, [], rfl, rfl, by omega, by omega, by simp, HN0.out, H0.out, HB0.out⟩
  case round =>
    obtain ⟨p, i, T, rfl, HPI, hp, hi, hT, HBl, HX, HBB⟩ := hrel
    have hsz := HBB.out.size
    by_cases hlt : p < s.size
    rotate_left
    · have HF : Hid (QuoR (bn s) o n (.panicked (faultV 151 n o))) := hid (HQ.out _ (.inr (by
        have h1 := HEN.out i (by have := HPI.out; have := HLL.out; omega) T
        rw [HX.out] at h1
        rw [h1]
        exact ⟨rfl, rfl⟩)))
      go_wp2
      exact ⟨rfl, HF.out, HBB.out⟩
    have hil : i < L.length := by have := HPI.out; have := HLL.out; omega
    have gy := (HGT.out p hlt).symm
    obtain ⟨z0, z1⟩ := HBD.out p hlt
    rw [HBY.out i p HPI.out hlt] at gy z0 z1
    obtain ⟨y, hy⟩ : ∃ y, L[i]?.getD 0 = y := ⟨_, rfl⟩
    have HA := hid (HAT.out i y T hil hy)
    have HBS2 := hid (fun (h : y = 92) => HBS.out i p HPI.out hlt (hy.trans h))
    have HES2 := hid (fun (h : y = 92) => HES.out i hil (hy.trans h))
    rw [hy] at gy z0 z1
    rw [HX.out] at HA
    clear hy HAT HX HBS HES HEN HBY HGT HBD HN0 HB0 H0
    by_cases h34 : y = 34
    · rw [if_pos h34] at HA
      subst h34
      have HF : Hid (∀ t, bn t = T → QuoR (bn s) o n (.returned (.tuple #[.string t, .int .i64 ((p : Int) + 1)]))) := fun t ht => HQ.out _ (.inl (by
        rw [HA.out]
        refine ⟨by simp, t, ht, ?_⟩
        have h5 : p = o + i := HPI.out
        rw [show ((p : Int) + 1) = ((o + (i + 1) : Nat) : Int) by omega]))
      have HSD := hid (bl_said w.heap.size w.heap.size T wr HBl.out hsz)
      clear HA HBS2 HES2
      go_wp2_with fail
      refine HSD.out.mono ?_
      rintro e w3 ⟨⟨t, ht, rfl⟩, B⟩
      have HF2 := hid (HF.out t ht)
      have HB3 := hid (HBB.out.trans B)
      clear ht B HF HSD
      go_wp2
      go_ret2
      exact ⟨HF2.out, HB3.out⟩
    · have q34 : (y == 34) = false := by simpa using h34
      rw [if_neg h34] at HA
      by_cases h92 : y = 92
      · rw [if_neg (by omega)] at HA
        have HCB := hid (HBS2.out h92 wr HBB.out)
        have HE := hid (HES2.out h92)
        subst h92
        clear HBS2 HES2 h34
        go_wp2_with fail
        refine HCB.out.mono ?_
        rintro e w3 ⟨⟨h0, rfl⟩ | ⟨r, k, hr, hes, hk, rfl⟩, B⟩
        · rw [if_pos h0] at HA
          have HF : Hid (QuoR (bn s) o n (.panicked (faultV 151 n p))) := hid (HQ.out _ (.inr (by
            rw [HA.out]
            exact ⟨rfl, by rw [HPI.out]⟩)))
          have HB3 := hid (HBB.out.trans (B.mono hsz))
          clear HA h0 B HCB HE
          go_wp2
          exact ⟨rfl, HF.out, HB3.out⟩
        · rw [hes] at HE HA
          have hE := HE.out hk
          simp only at hE
          rw [if_neg hk] at HA
          have HB3 := hid (HBB.out.trans (B.mono hsz))
          have HW := hid (bl_rune w.heap.size w.heap.size T r hr w3 (HBl.out.below B) (by have := HLL.out; omega) HB3.out.size)
          obtain ⟨hE1, hE2⟩ := hE
          have hTl : (T ++ enc r).length ≤ i + k := by rw [List.length_append]; omega
          have hks : p + k ≤ s.size := by have := HPI.out; have := HLL.out; omega
          have hkb : ((k : Int) == 0) = false := by simp; omega
          have HPI2 : Hid (p + k = o + (i + k)) := by have := HPI.out; show _ = _; omega
          have hs32 := scal_iff.1 hr
          clear hes HCB HE B hr HPI
          go_wp2_with fail
          refine HW.out.mono ?_
          rintro e w4 ⟨⟨v, rfl⟩, h1, h2, h3⟩
          have HBl4 := hid h1
          have HB4 := hid (HB3.out.trans h2)
          clear h1 h2 h3 HW
          go_wp2
          go_roundw
          case rel => exact ⟨p + k, i + k, T ++ enc r, by go_num, HPI2.out, hks, by omega, hTl, HBl4.out, HA.out.symm, HB4.out⟩
          case measure => simp [intOf]; omega
      · have q92 : (y == 92) = false := by simpa using h92
        rw [if_pos h92] at HA
        have HW := hid (bl_byte w.heap.size w.heap.size T y z0 z1 wr HBl.out (by have := HLL.out; omega) hsz)
        have HPI2 : Hid (p + 1 = o + (i + 1)) := by have := HPI.out; show _ = _; omega
        have hTl : (T ++ [y]).length ≤ i + 1 := by rw [List.length_append]; simp; omega
        clear HBS2 HES2 h34 h92 HPI
        go_wp2_with fail
        refine HW.out.mono ?_
        rintro e w4 ⟨rfl, h1, h2, h3⟩
        have HBl4 := hid h1
        have HB4 := hid (HBB.out.trans h2)
        clear h1 h2 h3 HW
        go_wp2
        go_roundw
        case rel => exact ⟨p + 1, i + 1, T ++ [y], by go_num, HPI2.out, by omega, by omega, hTl, HBl4.out, HA.out.symm, HB4.out⟩
        case measure => simp [intOf]; omega
end Go.Proofs.YtphkdagapoonjaaGreatDoor.Lx
namespace Go.Proofs.YtphkdagapoonjaaGreatDoor.E
set_option linter.unusedVariables false
section
variable {P : Program} {ops : Array Oper} {md : Region.Mode} {Q : Exit → Act → World → Prop}

/-- In this state, in every world, the operation leaves v, and the world as it was. -/
def YieldsFree (P : Program) (ops : Array Oper) (o : Oper) (v : Value) (a : Act) : Prop :=
  (Region.wanted o (yielded ops a.tmps) = true ∧ ∀ w, o.quietAt P a (fun x => x = w) w v) ∨ (Region.wanted o (yielded ops a.tmps) = false ∧ v = undef)
theorem YieldsFree.of_same {o : Oper} {v : Value} {a a' : Act} (hy : YieldsFree P ops o v a) (he : execOp a'.eval o = execOp a.eval o)
    (hw : Region.wanted o (yielded ops a'.tmps) = Region.wanted o (yielded ops a.tmps)) : YieldsFree P ops o v a' := by
  unfold YieldsFree Oper.quietAt at *
  rw [he, hw]
  exact hy
theorem YieldsFree.wpOp {i : Nat} {o : Oper} {v : Value} {a : Act} {w : World} {K : Act → World → Prop} (hi : ops[i]? = some o) (hy : YieldsFree P ops o v a) (h : K (a.put o.dst v) w) : wpOp P ops Q i K a w := by
  unfold Go.wpOp
  simp only [hi]
  rcases hy with ⟨hw, hv⟩ | ⟨hw, rfl⟩
  · simp only [hw, if_true]
    left
    have h3 := hv w
    unfold Oper.quietAt at h3
    unfold Oper.wp
    generalize (execOp a.eval o).run P w = r at *
    cases r with
    | ok n w' =>
      cases n <;> simp only [Oper.quietUpon] at h3 <;> simp only [Oper.upon]
      case value u =>
        obtain ⟨e1, e2⟩ := h3
        rw [e1, e2]
        exact h
      case skip =>
        obtain ⟨e1, e2⟩ := h3
        rw [e1, ← e2]
        exact h
      case enter f args =>
        obtain ⟨e1, hc⟩ := h3
        rw [e1]
        exact hc.mono fun e w'' ⟨he, hw''⟩ => by subst he; subst hw''; exact h
    | halt x w' => simp only [Oper.quietUpon] at h3
  · simp only [hw, Bool.false_eq_true, if_false]
    exact h
theorem put_defers (a : Act) (x : Option Tmp) (v : Value) (d : Deferred) : ({ (a.put x v) with defers := d :: (a.put x v).defers } : Act) = ({ a with defers := d :: a.defers } : Act).put x v := by
  cases x <;> rfl
theorem eval_defers (a : Act) (D : List Deferred) : ({ a with defers := D } : Act).eval = a.eval := by
  funext x
  cases x <;> rfl
/-- One operation, apart from the first: whether the first one's value is already there makes no difference to it, and it makes none to the first. -/
theorem wpOp_put {j : Nat} {oi oj : Oper} {v : Value} (hj : ops[j]? = some oj) (hap : oi.apart ops oj = true)
    (hsi : ∀ cs b, oi.op ≠ .select cs b) (hsj : ∀ cs b, oj.op ≠ .select cs b) (hQ : ∀ e a a' w, e ≠ Exit.normal → Q e a w → Q e a' w) {K : Act → World → Prop} {a : Act} {w : World}
    (hy : YieldsFree P ops oi v a) (h : wpOp P ops Q j K (a.put oi.dst v) w) :
    wpOp P ops Q j (fun a' w' => YieldsFree P ops oi v a' ∧ K (a'.put oi.dst v) w') a w := by
  obtain ⟨h1, h2, h3⟩ := Oper.apart_spec hap
  have keep : ∀ (a : Act), YieldsFree P ops oi v a → ∀ u, YieldsFree P ops oi v (a.put oj.dst u) := fun a hy u =>
    hy.of_same (execOp_put oi hsi a oj.dst u h3) (wanted_put oi a oj.dst u h3)
  unfold wpOp at *
  simp only [hj] at *
  rw [wanted_put oj a oi.dst v h1] at h
  split
  · rename_i hw
    simp only [hw, if_true] at h
    rcases h with h | ⟨h, hl⟩
    · left
      unfold Oper.wp at *
      rw [execOp_put oj hsj a oi.dst v h1] at h
      generalize (execOp a.eval oj).run P w = r at *
      cases r with
      | ok n w' =>
        cases n <;> simp only [Oper.upon] at h ⊢
        case value u => exact ⟨keep a hy u, by rw [← Act.put_comm a v u h2]; exact h⟩
        case skip => exact ⟨keep a hy _, by rw [← Act.put_comm a v _ h2]; exact h⟩
        case defer d =>
          rw [put_defers, Act.put_comm _ v _ h2] at h
          have hy' : YieldsFree P ops oi v ({ a with defers := d :: a.defers } : Act) := hy.of_same (by rw [eval_defers]) rfl
          exact ⟨keep _ hy' _, h⟩
        case enter f args =>
          refine h.mono fun e w'' hh => ?_
          cases e with
          | returned u => exact ⟨keep a hy u, by rw [← Act.put_comm a v u h2]; exact hh⟩
          | panicked c => exact hQ _ _ _ _ (by simp) hh
          | outgrown => exact hh
        case row row args =>
          refine h.mono (fun u w'' hh => ?_)
          exact ⟨keep a hy u, by rw [← Act.put_comm a v u h2]; exact hh⟩
      | halt x w' =>
        cases x <;> simp only [Oper.upon] at h ⊢
        exact hQ _ _ _ _ (by simp) h
    · right
      refine ⟨?_, hl⟩
      unfold Oper.asks at *
      rw [execOp_put oj hsj a oi.dst v h1] at h
      exact h
  · rename_i hw
    simp only [hw] at h
    exact ⟨keep a hy _, by rw [← Act.put_comm a v undef h2]; exact h⟩
/-- Nothing that is still to come, and doesn't wait for operation i, has to do with it. -/
def Loose (md : Region.Mode) (ops : Array Oper) (i : Nat) (oi : Oper) (listed : Array Bool) : Prop :=
  ∀ j oj, ops[j]? = some oj → j ≠ i → listed.getD j true = false → (∀ e ∈ oj.after, Region.binds md e = true → e.on ≠ i) → oi.apart ops oj = true
theorem Loose.more {i j : Nat} {oi : Oper} {listed : Array Bool} (h : Loose md ops i oi listed) (hj : listed.getD j true = false) : Loose md ops i oi (listed.setIfInBounds j true) := by
  intro k ok hk hki hun
  by_cases e : j = k
  · exact h k ok hk hki (e ▸ hj)
  · exact h k ok hk hki ((getD_set_ne true e).symm.trans hun)
/-- Of two that may come up now, neither waits for the other. -/
theorem no_wait {i j : Nat} {listed : Array Bool} (hi : i ∈ Region.ready md ops listed) (hj : j ∈ Region.ready md ops listed) : listed.getD j true = false ∧ ∃ oj, ops[j]? = some oj ∧ ∀ e ∈ oj.after, Region.binds md e = true → e.on ≠ i := by
  obtain ⟨h1, oj, h2, h3⟩ := mem_ready.1 hj
  have h4 := getD_both (mem_ready.1 hi).1
  exact ⟨h1, oj, h2, fun e he hb h5 => by rw [← h5, h3 e he hb] at h4; cases h4⟩
/-- It may be taken first. -/
theorem wpAny_first {i : Nat} {oi : Oper} {v : Value} (hi : ops[i]? = some oi) (hsel : ∀ (j : Nat) (o : Oper) cs b, ops[j]? = some o → o.op ≠ .select cs b) (hQ : ∀ e a a' w, e ≠ Exit.normal → Q e a w → Q e a' w) :
    ∀ (n : Nat) (listed : Array Bool) (a : Act) (w : World), Loose md ops i oi listed → i ∈ Region.ready md ops listed → YieldsFree P ops oi v a →
      wpAny P md ops Q n (listed.setIfInBounds i true) (a.put oi.dst v) w → wpAny P md ops Q (n + 1) listed a w
  | 0, listed, a, w, hf, hr, hy, H => ⟨fun h => absurd (h ▸ hr) (by simp), fun j hj => by
      by_cases e : j = i
      · rw [e]; exact hy.wpOp hi H
      · exact absurd (H.1 ▸ ready_mono hj e) (by simp)⟩
  | n + 1, listed, a, w, hf, hr, hy, H => ⟨fun h => absurd (h ▸ hr) (by simp), fun j hj => by
      by_cases e : j = i
      · rw [e]; exact hy.wpOp hi H
      · obtain ⟨hun, oj, hoj, hno⟩ := no_wait hr hj
        have step := wpOp_put hoj (hf j oj hoj e hun hno) (fun cs b => hsel i oi cs b hi) (fun cs b => hsel j oj cs b hoj) hQ hy (H.2 j (ready_mono hj e))
        refine wpOp_mono (fun a' w' ⟨hy', H'⟩ => ?_) step
        rw [Array.setIfInBounds_comm _ _ (Ne.symm e)] at H'
        exact wpAny_first hi hsel hQ n _ a' w' (hf.more hun) (ready_mono hr (Ne.symm e)) hy' H'⟩
/-- The walk of what is taken first. -/
def wpFree (P : Program) (ops : Array Oper) (Q : Act → Prop) : List Oper → Act → Prop
  | [], a => Q a
  | o :: rest, a => ∃ v, YieldsFree P ops o v a ∧ wpFree P ops Q rest (a.put o.dst v)
theorem wpAny_free {g : Nat} {w : World} (hs : Region.noSelect ops = true) (hQ : ∀ e a a' w, e ≠ Exit.normal → Q e a w → Q e a' w) : ∀ (l : List Oper) (k : Nat) (listed : Array Bool) (a : Act), (∀ j, j < l.length → l[j]? = ops[k + j]?) →
    Region.lexHead md ops g l.length k listed = true → wpFree P ops (fun a' => ∀ listed', Region.seqB md ops g (k + l.length) listed' = true → wpAny P md ops Q g listed' a' w) l a → wpAny P md ops Q (l.length + g) listed a w
  | [], k, listed, a, _, hB, h => by
    simp only [List.length_nil, Nat.zero_add, Nat.add_zero] at *
    exact h listed (by simpa [Region.lexHead] using hB)
  | o :: l, k, listed, a, hl, hB, h => by
    have h0 : ops[k]? = some o := by simpa using (hl 0 (by simp)).symm
    simp only [List.length_cons, Region.lexHead, Bool.and_eq_true] at hB
    obtain ⟨⟨hr, hf⟩, hB'⟩ := hB
    obtain ⟨v, hy, hK⟩ := h
    have := wpAny_free (g := g) (w := w) hs hQ l (k + 1) (listed.setIfInBounds k true) (a.put o.dst v) (fun j hj => by have := hl (j + 1) (by simp; omega); simpa [Nat.add_assoc, Nat.add_comm 1 j] using this) hB' (by
      simp only [List.length_cons] at hK
      rw [show k + 1 + l.length = k + (l.length + 1) by omega]
      exact hK)
    have e : (o :: l).length + g = (l.length + g) + 1 := by simp; omega
    rw [e]
    exact wpAny_first h0 (Region.noSelect_spec hs) hQ (l.length + g) listed a w (Region.free_spec h0 hf) (by simpa using hr) hy this
/-- The post, and no other way out. -/
def OnlyN (Q : Exit → Act → World → Prop) : Exit → Act → World → Prop := fun e a w => e = .normal ∧ Q .normal a w
/-- The Bool: the first n may be taken first, one by one; the others then stand in a row. -/
def freeB (l : List Oper) (n : Nat) : Bool := Region.noSelect l.toArray && decide (n ≤ l.length) && Region.lexHead .any l.toArray (l.length - n) n 0 (Array.replicate l.length false)
theorem wp_region_free {id : Nat} {a : Act} {w : World} {l : List Oper} (n : Nat) (hm : P.follows .mixedOrders = true) (hB : freeB l n = true)
    (h : wpFree P l.toArray (fun a' => wpList P l.toArray (OnlyN Q) (l.drop n) a' { w with drawn := w.drawn + 1 }) (l.take n) a) : (Code.region id l.toArray true).wp P Q a w := by
  simp only [freeB, Bool.and_eq_true, decide_eq_true_eq] at hB
  obtain ⟨⟨hs, hn⟩, hlex⟩ := hB
  have htl : (l.take n).length = n := by simp; omega
  have hdl : (l.drop n).length = l.length - n := by simp
  refine Code.wp_mono (Q := OnlyN Q) (fun e a w h => by obtain ⟨rfl, h⟩ := h; exact h) ?_
  refine wp_region_any hm ?_
  have key := wpAny_free (P := P) (ops := l.toArray) (md := .any) (Q := OnlyN Q) (g := l.length - n) (w := { w with drawn := w.drawn + 1 }) hs (fun e a a' w he h => absurd h.1 he) (l.take n) 0 (Array.replicate l.length false) a
    (fun j hj => by rw [htl] at hj; simp [hj]) (by rw [htl]; exact hlex) (by
      have mono : ∀ (q q' : Act → Prop) (ls : List Oper) (a : Act), (∀ a, q a → q' a) → wpFree P l.toArray q ls a → wpFree P l.toArray q' ls a := by
        intro q q' ls
        induction ls with
        | nil => intro a hq h; exact hq _ h
        | cons o ls ih => intro a hq h; obtain ⟨v, h1, h2⟩ := h; exact ⟨v, h1, ih _ hq h2⟩
      refine mono _ _ _ _ (fun a' ha' listed' hB' => ?_) h
      rw [htl, Nat.zero_add] at hB'
      have := wpAny_of_seq (P := P) (ops := l.toArray) (md := .any) (Q' := OnlyN Q) (l.drop n) n listed' a' { w with drawn := w.drawn + 1 } (fun j => by simp [List.getElem?_drop]) (by rw [hdl]; exact hB') ha'
      rw [hdl] at this
      exact this)
  rw [htl] at key
  have e : n + (l.length - n) = l.toArray.size := by simp; omega
  rw [e] at key
  simpa using key
theorem wpFree_nil {Q' : Act → Prop} {a : Act} (h : Q' a) : wpFree P ops Q' [] a := h
theorem wpFree_val {Q' : Act → Prop} {a : Act} {o : Oper} {rest : List Oper} (v : Value) (hg : o.guard = none) (h : ∀ w, (execOp a.eval o).run P w = .ok (.value v) w) (hk : wpFree P ops Q' rest (a.put o.dst v)) : wpFree P ops Q' (o :: rest) a :=
  ⟨v, .inl ⟨by unfold Region.wanted; rw [hg], fun w => by unfold Oper.quietAt; rw [h w]; exact ⟨rfl, rfl⟩⟩, hk⟩
theorem wpFree_call {Q' : Act → Prop} {a : Act} {o : Oper} {rest : List Oper} (v : Value) (hg : o.guard = none) {f : FuncId} {args : Array Value} (h : ∀ w, (execOp a.eval o).run P w = .ok (.enter f args) w) (hc : ∀ w, Calls P f args w fun e w' => e = .returned v ∧ w' = w) (hk : wpFree P ops Q' rest (a.put o.dst v)) : wpFree P ops Q' (o :: rest) a :=
  ⟨v, .inl ⟨by unfold Region.wanted; rw [hg], fun w => by unfold Oper.quietAt; rw [h w]; exact ⟨rfl, (hc w).mono fun e w' h => h⟩⟩, hk⟩
end
end Go.Proofs.YtphkdagapoonjaaGreatDoor.E
