/- A strings.Builder: what it says, how long it is; lex.quoted. (Stage 15.) -/
import Derived.Test.YtphkdagapoonjaaDoorLPG
import Derived.Test.YtphkdagapoonjaaDoorLPD
import Derived.Test.YtphkdagapoonjaaDoorLXH
namespace Go.Proofs.YtphkdagapoonjaaDoor.Lx
open Go.RowKit
open Go.Proofs.YtphkdagapoonjaaDoor.F (bn bn_length bn_append bn_inj bn_get byte_bd hid bn_extract isEmpty_false isEmpty_true str_eq same_eq)
open Go.Proofs.YtphkdagapoonjaaDoor.U (nx enc encs scal val Bytes)
set_option linter.unusedVariables false

theorem bldX : Builder.Extra Tryd.prog Tryd.l169_ren where
  sizeBuilder := by kernel_rfl
  liesBuilder := by kernel_rfl
  t5 := by kernel_rfl
  a5 := fun w => by kernel_rfl
  z5 := fun w => by kernel_rfl
  v5 := fun w => by kernel_rfl
  infoByte := by kernel_rfl
  cellsByte := by kernel_rfl
  sizeByte := by kernel_rfl
  neB5 := by decide
/-- Numbers that are bytes are those of a string. -/
theorem of_bytes : ∀ {l : List Int}, Bytes l → ∃ q : List UInt8, nn q = l
  | [], _ => ⟨[], rfl⟩
  | c :: l, h => by
    obtain ⟨q, hq⟩ := of_bytes (l := l) (fun x hx => h x (by simp [hx]))
    have hc := h c (by simp)
    refine ⟨c.toNat.toUInt8 :: q, ?_⟩
    show ((c.toNat.toUInt8.toNat : Nat) : Int) :: nn q = _
    rw [hq]
    congr 1
    simp
    omega
theorem baf_below {T e : TypeId} {B b : Nat} {p : Value} {bs : List Value} {W W' : World} (h : Lib.BuilderAtF T e B b p bs W) (hb : Below W.heap.size W W') : Lib.BuilderAtF T e B b p bs W' := by
  have hlt := h.lt
  obtain ⟨hB, v, hv, hown, hne⟩ := h
  exact ⟨hB, v, (hb.block b hlt).trans hv, hown.kept (row := none) ⟨hb.os, hb.tape, hb.output, hb.size, fun k hk _ => hb.block k hk⟩ (Classical.em _), hne⟩
/-- A builder in which these bytes stand. -/
def Bl (B b : Nat) (l : List Int) (w : World) : Prop := BF B b (cl l) w ∧ Bytes l
theorem Bl.below {B b : Nat} {l : List Int} {w W : World} (h : Bl B b l w) (hb : Below w.heap.size w W) : Bl B b l W := ⟨h.1.elim (fun x => .inl (baf_below x hb)) (fun x => .inr (baf_below x hb)), h.2⟩
theorem Bl.alloc {B b : Nat} {l : List Int} {w : World} (h : Bl B b l w) (o : Obj) : Bl B b l (w.alloc o) := ⟨Lib.IsBuilderF.alloc h.1 o, h.2⟩
theorem Bl.new (w : World) : Bl w.heap.size w.heap.size [] (w.alloc (.cells #[.pointer none, .slice none 0 0] 40)) := ⟨Lib.IsBuilderF.of (Lib.fresh_isBuilder _ _ w), fun b hb => by cases hb⟩
theorem bytes_app {a b : List Int} (ha : Bytes a) (hb : Bytes b) : Bytes (a ++ b) := fun x hx => (List.mem_append.1 hx).elim (ha x) (hb x)
theorem bl_byte (B b : Nat) (l : List Int) (c : Int) (h0 : 0 ≤ c) (h1 : c ≤ 255) (w : World) (h : Bl B b l w) (hlen : l.length ≤ 100000000) (hB : B ≤ w.heap.size) :
    Calls Tryd.prog 12 #[.pointer (some ⟨b, 0, none⟩), .int .u8 c] w fun e w' => e = .returned .nilIface ∧ Bl B b (l ++ [c]) w' ∧ Below B w w' ∧ OK b w w' := by
  refine (wb_any B b (cl l) c w h.1 (by rw [cl_len]; omega) hB).mono ?_
  rintro e w' ⟨rfl, h2, h3, h4⟩
  exact ⟨rfl, ⟨.inr (by rw [cl_app]; exact h2), bytes_app h.2 (fun x hx => by rw [List.mem_singleton.1 hx]; exact ⟨h0, h1⟩)⟩, h3, h4⟩
theorem bl_rune (B b : Nat) (l : List Int) (r : Int) (hr : scal r = true) (w : World) (h : Bl B b l w) (hlen : l.length ≤ 100000000) (hB : B ≤ w.heap.size) :
    Calls Tryd.prog 36 #[.pointer (some ⟨b, 0, none⟩), .int .i32 r] w fun e w' => (∃ v, e = .returned v) ∧ Bl B b (l ++ enc r) w' ∧ Below B w w' ∧ OK b w w' := by
  have hs := scal_iff.1 hr
  refine (wrn_any B b (cl l) r (by omega) (by omega) w h.1 (by rw [cl_len]; omega) hB).mono ?_
  rintro e w' ⟨rfl, h2, h3, h4⟩
  refine ⟨⟨_, rfl⟩, ⟨.inr (by rw [cl_app, ← cl_rune hr]; exact h2), bytes_app h.2 (U.enc_bytes r hs.1 hs.2.1)⟩, h3, h4⟩
theorem bl_str (B b : Nat) (l : List Int) (s : ByteArray) (w : World) (h : Bl B b l w) (hlen : l.length ≤ 100000000) (hs : s.size ≤ 100000000) (hB : B ≤ w.heap.size) :
    Calls Tryd.prog 15 #[.pointer (some ⟨b, 0, none⟩), .string s] w fun e w' => (∃ v, e = .returned v) ∧ Bl B b (l ++ bn s) w' ∧ Below B w w' ∧ OK b w w' := by
  refine (ws_any B b (cl l) s w h.1 (by rw [cl_len]; omega) hB).mono ?_
  rintro e w' ⟨rfl, h2, h3, h4⟩
  refine ⟨⟨_, rfl⟩, ⟨.inr (by rw [cl_app, ← cl_str]; exact h2), bytes_app h.2 (U.bn_bytes s)⟩, h3, h4⟩
theorem bl_len (B b : Nat) (l : List Int) (w : World) (h : Bl B b l w) : Calls Tryd.prog 14 #[.pointer (some ⟨b, 0, none⟩)] w fun e w' => e = .returned (.int .i64 l.length) ∧ w' = w := by
  refine Calls.mono (show Calls Tryd.prog 14 #[.pointer (some ⟨b, 0, none⟩)] w _ from Any.Builder_Len_f Tryd.l170 B b (cl l) w h.1) ?_
  rintro e w' ⟨rfl, rfl⟩
  exact ⟨by rw [cl_len], rfl⟩
theorem bl_said (B b : Nat) (l : List Int) (w : World) (h : Bl B b l w) (hB : B ≤ w.heap.size) : Calls Tryd.prog 16 #[.pointer (some ⟨b, 0, none⟩)] w fun e w' => (∃ t, bn t = l ∧ e = .returned (.string t)) ∧ Below B w w' := by
  obtain ⟨q, rfl⟩ := of_bytes h.2
  refine Calls.mono (show Calls Tryd.prog 16 #[.pointer (some ⟨b, 0, none⟩)] w _ from Any.Builder_String_any_k Tryd.l169 bldX B b q w (by rw [cl_byte]; exact h.1) hB) ?_
  rintro e w' ⟨rfl, _, h2, _⟩
  exact ⟨⟨_, bn_arr q, rfl⟩, h2⟩
/-- What quoted answers of the text in quotes that is opened at the byte o. -/
def QuoR (l : List Int) (o n : Nat) (e : Ending) : Prop :=
  ((txl (l.drop o)).2.1 ≠ 0 ∧ ∃ t, bn t = (txl (l.drop o)).1 ∧ e = .returned (.tuple #[.string t, .int .i64 ((o + (txl (l.drop o)).2.1 : Nat) : Int)])) ∨
  ((txl (l.drop o)).2.1 = 0 ∧ e = .panicked (faultV 151 n ((o + (txl (l.drop o)).2.2 : Nat) : Int)))
theorem tx_bytes : ∀ (l : List Int) (k : Nat), (es l).2 ≠ 0 → 0 < l.length → l.getD 0 0 = 92 → (es l).2 ≤ l.length := by
  intro l k h h0 h92
  rcases l with _ | ⟨c, r⟩
  · simp at h0
  have hc : c = 92 := by simpa using h92
  have := es_inv (l := c :: r) (by simpa using hc) h
  exact this.2.2.2.1
set_option maxRecDepth 100000 in
set_option maxHeartbeats 8000000 in
theorem quoted_any (s : ByteArray) (hs : s.size ≤ 1000000) (o : Nat) (ho : o < s.size) (n : Nat) (w : World) (G : Gl w) : Calls Tryd.prog 30 #[.string s, .int .i64 o, .int .i64 n] w fun e W' => QuoR (bn s) o n e ∧ Below w.heap.size w W' := by
  obtain ⟨L, hL⟩ : ∃ L, (bn s).drop o = L := ⟨_, rfl⟩
  have hLl : L.length = s.size - o := by rw [← hL, List.length_drop, bn_length]
  obtain ⟨X, hX⟩ : ∃ X, txl L = X := ⟨_, rfl⟩
  have hQ : ∀ e, (X.2.1 ≠ 0 ∧ ∃ t, bn t = X.1 ∧ e = .returned (.tuple #[.string t, .int .i64 ((o + X.2.1 : Nat) : Int)])) ∨ (X.2.1 = 0 ∧ e = .panicked (faultV 151 n ((o + X.2.2 : Nat) : Int))) → QuoR (bn s) o n e := fun e h => by
    unfold QuoR; rw [hL, hX]; exact h
  have HQ := hid hQ
  have H0 : Hid (tx (L.length - 1) [] (L.drop 1) 1 = X) := by rw [← hX]; rfl
  have HAT := hid (fun i y (t : List Int) (hi : i < L.length) (hy : L[i]?.getD 0 = y) => tx_at hi hy t)
  have HBY : Hid (∀ i p (e : p = o + i) (h : p < s.size), (bn s)[p]?.getD 0 = L[i]?.getD 0) := fun i p e hi => by
    subst e
    rw [← hL, List.getElem?_drop]
  have HGT := hid (bn_get s)
  have HBD := hid (fun j (h : j < s.size) => byte_bd (s := s) h)
  have HBS : Hid (∀ i p, p = o + i → p < s.size → L[i]?.getD 0 = 92 → ∀ W, Below w.heap.size w W → Calls Tryd.prog 41 #[.string (s.extract p s.size)] W fun e W' => BsR (L.drop i) e ∧ Below W.heap.size W W') := fun i p e hi h92 W hW => by
    subst e
    have h := bs_any (s.extract (o + i) s.size) (by simp; omega) (by simp; omega) (by rw [bn_extract, ← List.drop_drop, hL, List.getD_eq_getElem?_getD, List.getElem?_drop]; exact h92) W (G.below hW)
    rw [bn_extract, ← List.drop_drop, hL] at h
    exact h
  have HEN : Hid (∀ i, L.length ≤ i → (∀ t, tx (L.length - i) t (L.drop i) i = ([], 0, 0))) := fun i hi t => by
    rw [List.drop_eq_nil_of_le hi]; exact tx_nil _ _ _
  have HES : Hid (∀ i, i < L.length → L[i]?.getD 0 = 92 → (es (L.drop i)).2 ≠ 0 → i + (es (L.drop i)).2 ≤ L.length ∧ (es (L.drop i)).1.length + 1 ≤ (es (L.drop i)).2) := fun i hi h92 hk => by
    have h9 : (L.drop i).getD 0 0 = 92 := by rw [List.getD_eq_getElem?_getD, List.getElem?_drop]; exact h92
    have h1 := tx_bytes (L.drop i) 0 hk (by rw [List.length_drop]; omega) h9
    rw [List.length_drop] at h1
    exact ⟨by omega, (es_inv h9 hk).2.2.1⟩
  have HLL := hid hLl
  clear hL hX hQ G hLl
  have HB0 := hid ((Below.refl w.heap.size w).alloc (Nat.le_refl _) (.cells #[.pointer none, .slice none 0 0] 40))
  have HN0 := hid (Bl.new w)
  go_enter Tryd.func30, Tryd.ntmps30
  go_wp2
  go_loopw [9] (fun v9 wr => ∃ (p i : Nat) (T : List Int), v9 = .int .i64 (p : Int) ∧ Hid (p = o + i) ∧ p ≤ s.size ∧ 1 ≤ i ∧ T.length ≤ i ∧ Hid (Bl w.heap.size w.heap.size T wr) ∧ Hid (tx (L.length - i) T (L.drop i) i = X) ∧ Hid (Below w.heap.size w wr)) (fun v9 _ => s.size - (intOf v9).toNat)
  case atStart => exact ⟨o + 1, 1, [], rfl, rfl, by omega, by omega, by simp, HN0.out, H0.out, HB0.out⟩
  case round =>
    obtain ⟨p, i, T, rfl, HPI, hp, hi, hT, HBl, HX, HBB⟩ := hrel
    have hsz := HBB.out.size
    by_cases hlt : p < s.size
    rotate_left
    · have HF : Hid (QuoR (bn s) o n (.panicked (faultV 151 n o))) := hid (HQ.out _ (.inr (by
        have h1 := HEN.out i (by have := HPI.out; have := HLL.out; omega) T
        rw [HX.out] at h1
        rw [h1]
        exact ⟨rfl, rfl⟩)))
      go_wp2
      exact ⟨rfl, HF.out, HBB.out⟩
    have hil : i < L.length := by have := HPI.out; have := HLL.out; omega
    have gy := (HGT.out p hlt).symm
    obtain ⟨z0, z1⟩ := HBD.out p hlt
    rw [HBY.out i p HPI.out hlt] at gy z0 z1
    obtain ⟨y, hy⟩ : ∃ y, L[i]?.getD 0 = y := ⟨_, rfl⟩
    have HA := hid (HAT.out i y T hil hy)
    have HBS2 := hid (fun (h : y = 92) => HBS.out i p HPI.out hlt (hy.trans h))
    have HES2 := hid (fun (h : y = 92) => HES.out i hil (hy.trans h))
    rw [hy] at gy z0 z1
    rw [HX.out] at HA
    clear hy HAT HX HBS HES HEN HBY HGT HBD HN0 HB0 H0
    by_cases h34 : y = 34
    · rw [if_pos h34] at HA
      subst h34
      have HF : Hid (∀ t, bn t = T → QuoR (bn s) o n (.returned (.tuple #[.string t, .int .i64 ((p : Int) + 1)]))) := fun t ht => HQ.out _ (.inl (by
        rw [HA.out]
        refine ⟨by simp, t, ht, ?_⟩
        have h5 : p = o + i := HPI.out
        rw [show ((p : Int) + 1) = ((o + (i + 1) : Nat) : Int) by omega]))
      have HSD := hid (bl_said w.heap.size w.heap.size T wr HBl.out hsz)
      clear HA HBS2 HES2
      go_wp2_with fail
      refine HSD.out.mono ?_
      rintro e w3 ⟨⟨t, ht, rfl⟩, B⟩
      have HF2 := hid (HF.out t ht)
      have HB3 := hid (HBB.out.trans B)
      clear ht B HF HSD
      go_wp2
      go_ret2
      exact ⟨HF2.out, HB3.out⟩
    · have q34 : (y == 34) = false := by simpa using h34
      rw [if_neg h34] at HA
      by_cases h92 : y = 92
      · rw [if_neg (by omega)] at HA
        have HCB := hid (HBS2.out h92 wr HBB.out)
        have HE := hid (HES2.out h92)
        subst h92
        clear HBS2 HES2 h34
        go_wp2_with fail
        refine HCB.out.mono ?_
        rintro e w3 ⟨⟨h0, rfl⟩ | ⟨r, k, hr, hes, hk, rfl⟩, B⟩
        · rw [if_pos h0] at HA
          have HF : Hid (QuoR (bn s) o n (.panicked (faultV 151 n p))) := hid (HQ.out _ (.inr (by
            rw [HA.out]
            exact ⟨rfl, by rw [HPI.out]⟩)))
          have HB3 := hid (HBB.out.trans (B.mono hsz))
          clear HA h0 B HCB HE
          go_wp2
          exact ⟨rfl, HF.out, HB3.out⟩
        · rw [hes] at HE HA
          have hE := HE.out hk
          simp only at hE
          rw [if_neg hk] at HA
          have HB3 := hid (HBB.out.trans (B.mono hsz))
          have HW := hid (bl_rune w.heap.size w.heap.size T r hr w3 (HBl.out.below B) (by have := HLL.out; omega) HB3.out.size)
          obtain ⟨hE1, hE2⟩ := hE
          have hTl : (T ++ enc r).length ≤ i + k := by rw [List.length_append]; omega
          have hks : p + k ≤ s.size := by have := HPI.out; have := HLL.out; omega
          have hkb : ((k : Int) == 0) = false := by simp; omega
          have HPI2 : Hid (p + k = o + (i + k)) := by have := HPI.out; show _ = _; omega
          have hs32 := scal_iff.1 hr
          clear hes HCB HE B hr HPI
          go_wp2_with fail
          refine HW.out.mono ?_
          rintro e w4 ⟨⟨v, rfl⟩, h1, h2, h3⟩
          have HBl4 := hid h1
          have HB4 := hid (HB3.out.trans h2)
          clear h1 h2 h3 HW
          go_wp2
          go_roundw
          case rel => exact ⟨p + k, i + k, T ++ enc r, by go_num, HPI2.out, hks, by omega, hTl, HBl4.out, HA.out.symm, HB4.out⟩
          case measure => simp [intOf]; omega
      · have q92 : (y == 92) = false := by simpa using h92
        rw [if_pos h92] at HA
        have HW := hid (bl_byte w.heap.size w.heap.size T y z0 z1 wr HBl.out (by have := HLL.out; omega) hsz)
        have HPI2 : Hid (p + 1 = o + (i + 1)) := by have := HPI.out; show _ = _; omega
        have hTl : (T ++ [y]).length ≤ i + 1 := by rw [List.length_append]; simp; omega
        clear HBS2 HES2 h34 h92 HPI
        go_wp2_with fail
        refine HW.out.mono ?_
        rintro e w4 ⟨rfl, h1, h2, h3⟩
        have HBl4 := hid h1
        have HB4 := hid (HBB.out.trans h2)
        clear h1 h2 h3 HW
        go_wp2
        go_roundw
        case rel => exact ⟨p + 1, i + 1, T ++ [y], by go_num, HPI2.out, by omega, by omega, hTl, HBl4.out, HA.out.symm, HB4.out⟩
        case measure => simp [intOf]; omega
end Go.Proofs.YtphkdagapoonjaaDoor.Lx
