/- The library's own that head calls, by the shelf. (Stage 19.) -/
import Derived.Test.YtacbfbhhhofifaaDoorHRI
import Derived.Ground.NamesProg
import Derived.Ground.MpProg
import Derived.Shelf.Lay
import Derived.Shelf.Strings.OnBuilder
import Derived.Shelf.Strings.SlTrimAscii
import Derived.Shelf.Strings.Search3
import Derived.Shelf.Strings.Prefix
import Derived.Shelf.Pu.Clone
namespace Go.Proofs
open Go.Shelf Go.RowKit
shelf_lay Lays.n159 Nm 159 at Tryd as Tryd.laysLow
shelf_lay Lays.n160 Nm 160 at Tryd as Tryd.laysTrim
shelf_lay Lays.n219 Nm 219 at Tryd as Tryd.laysIx
shelf_lay Lays.n144 Nm 144 at Tryd as Tryd.laysCon
shelf_lay Lays.n206 Nm 206 at Tryd as Tryd.laysHp
shelf_lay Lays.n207 Nm 207 at Tryd as Tryd.laysHs
shelf_lay LaysPu.n25 Mp 25 at Tryd as Tryd.lClo
end Go.Proofs
namespace Go.Proofs.YtacbfbhhhofifaaDoor.Hd
open Go.RowKit Go.Shelf
open Go.Proofs.YtacbfbhhhofifaaDoor.F (bn bn_length bn_append bn_inj bn_get byte_bd hid bn_extract isEmpty_false isEmpty_true str_eq same_eq)
set_option linter.unusedVariables false

/-- Bytes, as numbers. -/
def nn (l : List UInt8) : List Int := l.map fun c => (c.toNat : Int)
theorem bn_nn (s : ByteArray) : bn s = nn s.data.toList := rfl
theorem nn_cons (b : UInt8) (l : List UInt8) : nn (b :: l) = (b.toNat : Int) :: nn l := rfl
theorem int8 {a b : UInt8} (h : (a.toNat : Int) = (b.toNat : Int)) : a = b := UInt8.toNat_inj.1 (by omega)
theorem idx_opt (c : UInt8) : ∀ l : List UInt8, Lib.indexByte l c = opt (fnd (nn l) c.toNat 0)
  | [] => by rw [Lib.indexByte, fnd_end (by simp [nn])]; rfl
  | b :: l => by
    rw [Lib.indexByte, idx_opt c l, nn_cons, fnd_step (l := (b.toNat : Int) :: nn l) (i := 0) (by simp)]
    by_cases h : b = c
    · subst h
      rw [if_pos (by simp), if_pos (by simp)]
      rfl
    · have hne : ¬ (b.toNat : Int) = c.toNat := fun e => h (int8 e)
      have hne2 : ¬ (((b.toNat : Int) :: nn l : List Int)[0]?.getD 0) = ((c.toNat : Nat) : Int) := hne
      rw [if_neg (by simpa using h), if_neg hne2, fnd_off ((b.toNat : Int) :: nn l) _ (0 + 1)]
      show _ = opt (Option.map _ (fnd (nn l) c.toNat 0))
      cases fnd (nn l) c.toNat 0 with
      | none => rfl
      | some k =>
        have hk : ¬ (opt (some k) == -1) = true := by
          show ¬ ((k : Int) == -1) = true
          simp
        rw [if_neg hk]
        show (k : Int) + 1 = ((k + (0 + 1) : Nat) : Int)
        omega
theorem ix_any (s : ByteArray) (c : UInt8) (w : World) : Calls Tryd.prog 46 #[.string s, .string ⟨#[c]⟩] w fun e W' => e = .returned (.int .i64 (opt (fnd (bn s) c.toNat 0))) ∧ W' = w := by
  have h := Any.stringslite_Index_one Tryd.laysIx s c w
  have hf : Tryd.laysIx_ren.f 219 = 46 := by kernel_rfl
  rw [hf, idx_opt] at h
  exact h
theorem con_any (s : ByteArray) (w : World) : Calls Tryd.prog 38 #[.string s, .string ⟨#[13]⟩] w fun e W' => e = .returned (.bool (decide (0 ≤ opt (fnd (bn s) 13 0)))) ∧ W' = w := by
  have h := Any.strings_Contains_one Tryd.laysCon s 13 w
  have hf : Tryd.laysCon_ren.f 144 = 38 := by kernel_rfl
  rw [hf, idx_opt] at h
  exact h
/-- What Cut answers. -/
def CutR (s : ByteArray) (c : Int) (e : Ending) : Prop := ∃ (A B : ByteArray) (b : Bool), bn A = (bn s).takeWhile (nb c) ∧ bn B = ((bn s).dropWhile (nb c)).drop 1 ∧ (b = true ↔ (bn s).dropWhile (nb c) ≠ []) ∧ e = .returned (.tuple #[.string A, .string B, .bool b])
theorem tW_all {c : Int} : ∀ l : List Int, (∀ x ∈ l, nb c x = true) → l.takeWhile (nb c) = l
  | [], _ => rfl
  | x :: l, h => by rw [List.takeWhile_cons, if_pos (h x (List.mem_cons_self ..)), tW_all l fun y hy => h y (List.mem_cons_of_mem _ hy)]
set_option maxRecDepth 100000 in
set_option maxHeartbeats 4000000 in
theorem lcut_any (s : ByteArray) (c : UInt8) (hs : s.size ≤ 1000000) (w : World) : Calls Tryd.prog 57 #[.string s, .string ⟨#[c]⟩] w fun e W' => CutR s c.toNat e ∧ Below w.heap.size w W' := by
  have HIX := hid (ix_any s c)
  have h1 : (⟨#[c]⟩ : ByteArray).size = 1 := rfl
  cases hf : fnd (bn s) c.toNat 0 with
  | none =>
    have hd := fnd_no hf
    have ht := tW_all (c := c.toNat) (bn s) (fun x hx => by rw [fnd_none, List.all_eq_true] at hf; exact hf x hx)
    rw [hf] at HIX
    have HD := hid hd
    have HT := hid ht
    clear hd ht hf
    go_enter Tryd.func57, Tryd.ntmps57
    go_wp2_with (go_at_call 46; refine (HIX.out _).mono ?_; rintro e w' ⟨rfl, rfl⟩; simp only [opt])
    go_ret3
    refine ⟨⟨s, ⟨#[]⟩, false, HT.out.symm, ?_, ?_, rfl⟩, Below.refl _ _⟩
    · rw [HD.out]; rfl
    · rw [HD.out]; simp
  | some k =>
    obtain ⟨hk, ht, hd⟩ := fnd_yes hf
    rw [hf] at HIX
    rw [bn_length] at hk
    have HD := hid hd
    have HT := hid ht
    have hwk : IntKind.i64.wrap ((k : Int) + 1) = (k : Int) + 1 := by rw [IntKind.wrap_i64]; omega
    clear hd ht hf
    go_enter Tryd.func57, Tryd.ntmps57
    go_wp2_with (go_at_call 46; refine (HIX.out _).mono ?_; rintro e w' ⟨rfl, rfl⟩; simp only [opt])
    refine E.wp_region_free 9 (by kernel_rfl) (by kernel_rfl) ?_
    simp only [List.take_succ_cons, List.take_zero, List.drop_succ_cons, List.drop_zero]
    refine E.wpFree_val (.string s) rfl (fun W => by go_simp) ?_
    refine E.wpFree_val (.int .i64 (k : Int)) rfl (fun W => by go_simp) ?_
    refine E.wpFree_val (.string (s.extract 0 k)) rfl (fun W => by go_simp <;> omega) ?_
    refine E.wpFree_val (.string s) rfl (fun W => by go_simp) ?_
    refine E.wpFree_val (.int .i64 (k : Int)) rfl (fun W => by go_simp) ?_
    refine E.wpFree_val (.string ⟨#[c]⟩) rfl (fun W => by go_simp) ?_
    refine E.wpFree_val (.int .i64 1) rfl (fun W => by go_simp) ?_
    refine E.wpFree_val (.int .i64 ((k : Int) + 1)) rfl (fun W => by go_simp <;> first | exact hwk | omega) ?_
    refine E.wpFree_val (.string (s.extract (k + 1) s.size)) rfl (fun W => by go_simp <;> omega) ?_
    refine E.wpFree_nil ?_
    show wpList _ _ _ _ _ (World.drew _)
    go_wp2
    refine ⟨rfl, ?_⟩
    go_wp2
    go_ret3
    have hne : (bn s).drop k ≠ [] := by
      intro e
      have := congrArg List.length e
      rw [List.length_drop, bn_length] at this
      simp at this; omega
    refine ⟨⟨s.extract 0 k, s.extract (k + 1) s.size, true, ?_, ?_, ?_, rfl⟩, below_drew (Below.refl _ _)⟩
    · exact (bn_take s k (by omega)).trans HT.out.symm
    · rw [bn_extract, HD.out, List.drop_drop]
    · rw [HD.out]; exact ⟨fun _ => hne, fun _ => rfl⟩
theorem cut_any (s : ByteArray) (c : UInt8) (hs : s.size ≤ 1000000) (w : World) : Calls Tryd.prog 47 #[.string s, .string ⟨#[c]⟩] w fun e W' => CutR s c.toNat e ∧ Below w.heap.size w W' := by
  have HC := hid (lcut_any s c hs)
  go_enter Tryd.func47, Tryd.ntmps47
  go_wp2_with (go_at_call 57; refine (HC.out _).mono ?_; rintro e w' ⟨⟨A, B, b, h1, h2, h3, rfl⟩, hB⟩; have HA := hid h1; have HB := hid h2; have HC3 := hid h3; have HBl := hid hB; clear h1 h2 h3 hB)
  go_ret3
  exact ⟨⟨A, B, b, HA.out, HB.out, HC3.out, rfl⟩, HBl.out⟩
/-! ### A line's end -/
theorem suf_13 (s : ByteArray) : Lib.hasSuffix s.data.toList [13] = decide ((bn s).getLast? = some 13) := by
  unfold Lib.hasSuffix
  rw [Bool.eq_iff_iff, decide_eq_true_iff, List.isSuffixOf_iff_suffix, bn_nn, List.getLast?_eq_some_iff]
  constructor
  · rintro ⟨t, e⟩
    exact ⟨nn t, by rw [← e]; simp [nn]⟩
  · rintro ⟨l, e⟩
    obtain ⟨u, v, e1, e2, e3⟩ := List.map_eq_append_iff.1 e
    obtain ⟨x, e4, e5⟩ := List.map_eq_singleton_iff.1 e3
    refine ⟨u, ?_⟩
    have : x = 13 := int8 e5
    rw [e1, e4, this]
/-- What CutSuffix answers, of the byte 13. -/
def SufR (s : ByteArray) (e : Ending) : Prop := ∃ (t : ByteArray) (b : Bool), e = .returned (.tuple #[.string t, .bool b]) ∧ (b = true → bn s = bn t ++ [13]) ∧ (b = false → (bn s).getLast? ≠ some 13) ∧ bn t = if b = true then (bn s).take (s.size - 1) else bn s
set_option maxRecDepth 100000 in
set_option maxHeartbeats 4000000 in
theorem lsuf_any (s : ByteArray) (hs : s.size ≤ 1000000) (w : World) : Calls Tryd.prog 40 #[.string s, .string ⟨#[13]⟩] w fun e W' => SufR s e ∧ W' = w := by
  have HH : Hid (∀ w, Calls Tryd.prog 45 #[.string s, .string ⟨#[13]⟩] w fun e W' => e = .returned (.bool (decide ((bn s).getLast? = some 13))) ∧ W' = w) := fun w => by
    have h := Any.stringslite_HasSuffix Tryd.laysHs s ⟨#[13]⟩ w (by omega)
    have hf : Tryd.laysHs_ren.f 207 = 45 := by kernel_rfl
    rw [hf, suf_13] at h
    exact h
  by_cases hx : (bn s).getLast? = some 13
  · rw [decide_eq_true hx] at HH
    obtain ⟨l, hl⟩ := List.getLast?_eq_some_iff.1 hx
    have hsz : s.size = l.length + 1 := by rw [← bn_length, hl]; simp
    have HL := hid hl
    clear hl hx
    go_enter Tryd.func40, Tryd.ntmps40
    go_wp2_with (go_at_call 45; refine (HH.out _).mono ?_; rintro e w' ⟨rfl, rfl⟩)
    have hm : ((s.size : Int) - 1).toNat = l.length := by omega
    go_ret2
    have e1 := bn_take s l.length (by omega)
    refine ⟨⟨s.extract 0 l.length, true, ?_, fun _ => ?_, (fun h => by cases h), ?_⟩, rfl⟩
    · rfl
    · rw [e1, HL.out]; simp
    · rw [e1, if_pos rfl]; congr 1; omega
  · rw [decide_eq_false hx] at HH
    have HX := hid hx
    clear hx
    go_enter Tryd.func40, Tryd.ntmps40
    go_wp2_with (go_at_call 45; refine (HH.out _).mono ?_; rintro e w' ⟨rfl, rfl⟩)
    go_ret2
    exact ⟨⟨s, false, rfl, (fun h => by cases h), fun _ => HX.out, rfl⟩, rfl⟩
theorem suf_any (s : ByteArray) (hs : s.size ≤ 1000000) (w : World) : Calls Tryd.prog 37 #[.string s, .string ⟨#[13]⟩] w fun e W' => SufR s e ∧ W' = w := by
  have HC := hid (lsuf_any s hs)
  go_enter Tryd.func37, Tryd.ntmps37
  go_wp2_with (go_at_call 40; refine (HC.out _).mono ?_; rintro e w' ⟨⟨t, b, rfl, h1, h2, h3⟩, rfl⟩; have H1 := hid h1; have H2 := hid h2; have H3 := hid h3; clear h1 h2 h3)
  go_ret2
  exact ⟨⟨t, b, rfl, H1.out, H2.out, H3.out⟩, rfl⟩
/-! ### A version's beginning -/
theorem pre_bn (s p : ByteArray) : Lib.hasPrefix s.data.toList p.data.toList = decide ((bn s).take p.size = bn p) := by
  unfold Lib.hasPrefix
  rw [Bool.eq_iff_iff, decide_eq_true_iff, List.isPrefixOf_iff_prefix]
  have hl : p.size = p.data.toList.length := Lib.size_eq p
  rw [bn_nn, bn_nn]
  unfold nn
  rw [← List.map_take, hl]
  constructor
  · rintro ⟨t, e⟩
    rw [← e, List.take_left]
  · intro h
    have hi : ∀ {a b : List UInt8}, a.map (fun c : UInt8 => (c.toNat : Int)) = b.map (fun c : UInt8 => (c.toNat : Int)) → a = b := by
      intro a
      induction a with
      | nil => intro b h; cases b with
        | nil => rfl
        | cons _ _ => cases h
      | cons x a ih =>
        intro b h
        cases b with
        | nil => cases h
        | cons y b =>
          simp only [List.map_cons, List.cons.injEq] at h
          rw [int8 h.1, ih h.2]
    have := hi h
    refine ⟨s.data.toList.drop p.data.toList.length, ?_⟩
    conv => lhs; lhs; rw [← this]
    exact List.take_append_drop _ _
def ht5 : ByteArray := ⟨#[72, 84, 84, 80, 47]⟩
/-- What CutPrefix answers, of a version's beginning. -/
def PreR (s : ByteArray) (e : Ending) : Prop := ∃ (t : ByteArray) (b : Bool), e = .returned (.tuple #[.string t, .bool b]) ∧ (b = true ↔ (bn s).take 5 = [72, 84, 84, 80, 47]) ∧ (b = true → bn t = (bn s).drop 5)
set_option maxRecDepth 100000 in
set_option maxHeartbeats 4000000 in
theorem lpre_any (s : ByteArray) (hs : s.size ≤ 1000000) (w : World) : Calls Tryd.prog 75 #[.string s, .string ⟨#[72, 84, 84, 80, 47]⟩] w fun e W' => PreR s e ∧ W' = w := by
  have HH : Hid (∀ w, Calls Tryd.prog 86 #[.string s, .string ⟨#[72, 84, 84, 80, 47]⟩] w fun e W' => e = .returned (.bool (decide ((bn s).take 5 = [72, 84, 84, 80, 47]))) ∧ W' = w) := fun w => by
    have h := Any.stringslite_HasPrefix Tryd.laysHp s ⟨#[72, 84, 84, 80, 47]⟩ w
    have hf : Tryd.laysHp_ren.f 206 = 86 := by kernel_rfl
    rw [hf, pre_bn] at h
    exact h
  have h5 : (⟨#[72, 84, 84, 80, 47]⟩ : ByteArray).size = 5 := rfl
  by_cases hx : (bn s).take 5 = [72, 84, 84, 80, 47]
  · rw [decide_eq_true hx] at HH
    have hsz : 5 ≤ s.size := by
      have := congrArg List.length hx
      rw [List.length_take, bn_length] at this
      simp at this; omega
    have HL := hid hx
    clear hx
    go_enter Tryd.func75, Tryd.ntmps75
    go_wp2_with (go_at_call 86; refine (HH.out _).mono ?_; rintro e w' ⟨rfl, rfl⟩)
    go_ret2
    exact ⟨⟨s.extract 5 s.size, true, rfl, ⟨fun _ => HL.out, fun _ => rfl⟩, fun _ => bn_extract s 5⟩, rfl⟩
  · rw [decide_eq_false hx] at HH
    have HX := hid hx
    clear hx
    go_enter Tryd.func75, Tryd.ntmps75
    go_wp2_with (go_at_call 86; refine (HH.out _).mono ?_; rintro e w' ⟨rfl, rfl⟩)
    go_ret2
    exact ⟨⟨s, false, rfl, ⟨(fun h => by cases h), fun h => absurd h HX.out⟩, (fun h => by cases h)⟩, rfl⟩
theorem pre_any (s : ByteArray) (hs : s.size ≤ 1000000) (w : World) : Calls Tryd.prog 58 #[.string s, .string ⟨#[72, 84, 84, 80, 47]⟩] w fun e W' => PreR s e ∧ W' = w := by
  have HC := hid (lpre_any s hs)
  go_enter Tryd.func58, Tryd.ntmps58
  go_wp2_with (go_at_call 75; refine (HC.out _).mono ?_; rintro e w' ⟨⟨t, b, rfl, h1, h2⟩, rfl⟩; have H1 := hid h1; have H2 := hid h2; clear h1 h2)
  go_ret2
  exact ⟨⟨t, b, rfl, H1.out, H2.out⟩, rfl⟩
/-! ### Small letters, blanks at the ends, a copy -/
theorem lowX : Builder.Extra Tryd.prog Tryd.laysLow_ren where
  sizeBuilder := by kernel_rfl
  liesBuilder := by kernel_rfl
  t5 := by kernel_rfl
  a5 := fun w => by kernel_rfl
  z5 := fun w => by kernel_rfl
  v5 := fun w => by kernel_rfl
  infoByte := by kernel_rfl
  cellsByte := by kernel_rfl
  sizeByte := by kernel_rfl
  neB5 := by decide
theorem low_fin : ∀ n : Fin 256, n.val < 128 → ((Lib.lowerB (UInt8.ofNat n.val)).toNat : Int) = up (n.val : Int) := by decide +kernel
theorem low_is (c : UInt8) (h : c.toNat < 128) : ((Lib.lowerB c).toNat : Int) = up (c.toNat : Int) := by
  have := low_fin ⟨c.toNat, by have := c.toNat_lt; omega⟩ h
  simpa using this
theorem lower_any (s : ByteArray) (hs : s.size ≤ 1000000) (ha : ∀ c ∈ bn s, c < 128) (w : World) : Calls Tryd.prog 51 #[.string s] w fun e W' => (∃ t, e = .returned (.string t) ∧ bn t = sml (bn s)) ∧ Below w.heap.size w W' := by
  have hf : Tryd.laysLow_ren.f 159 = 51 := by kernel_rfl
  have hb : ∀ b ∈ s.data.toList, b.toNat < 128 := fun b hb => by
    have := ha (b.toNat : Int) (List.mem_map.2 ⟨b, hb, rfl⟩)
    omega
  have h := Any.strings_ToLower_ascii Tryd.laysLow lowX s w (by omega) (fun j b h => hb b (List.mem_of_getElem? h))
  rw [hf] at h
  refine h.mono ?_
  rintro e W' ⟨rfl, hB⟩
  refine ⟨⟨_, rfl, ?_⟩, hB⟩
  rw [sml_up]
  show (Lib.toLowerA s.data.toList).map (fun c : UInt8 => (c.toNat : Int)) = (s.data.toList.map (fun c : UInt8 => (c.toNat : Int))).map up
  unfold Lib.toLowerA
  rw [List.map_map, List.map_map]
  exact List.map_congr_left (fun c hc => low_is c (hb c hc))
theorem dW_stop {p : Int → Bool} {b : Int} (hb : p b = false) : ∀ (a r : List Int), (a ++ b :: r).dropWhile p = a.dropWhile p ++ b :: r
  | [], r => by rw [List.nil_append, List.dropWhile_cons, hb]; rfl
  | x :: a, r => by
    rw [List.cons_append, List.dropWhile_cons, List.dropWhile_cons]
    split
    · exact dW_stop hb a r
    · rfl
theorem trm_back (l : List Int) : ((l.reverse.dropWhile bl).reverse).dropWhile bl = trm l := by
  unfold trm
  cases h : l.dropWhile bl with
  | nil =>
    have hall : ∀ x ∈ l, bl x = true := fun x hx => by
      have e : l = l.takeWhile bl := by
        have := List.takeWhile_append_dropWhile (p := bl) (l := l)
        rw [h, List.append_nil] at this
        exact this.symm
      rw [e] at hx
      exact List.all_eq_true.1 (List.all_takeWhile) x hx
    rw [dW_nil l.reverse (fun x hx => hall x (List.mem_reverse.1 hx))]
    rfl
  | cons b r =>
    have hb : bl b = false := by
      have := List.head_dropWhile_not bl (l := l) (by rw [h]; simp)
      simpa [h] using this
    have e : l = l.takeWhile bl ++ b :: r := by rw [← h]; exact List.takeWhile_append_dropWhile.symm
    have hA : ∀ x ∈ l.takeWhile bl, bl x = true := fun x hx => List.all_eq_true.1 (List.all_takeWhile) x hx
    obtain ⟨A, hAe⟩ : ∃ A, l.takeWhile bl = A := ⟨_, rfl⟩
    rw [hAe] at e hA
    rw [e, List.reverse_append, List.reverse_cons, List.append_assoc, List.singleton_append, dW_stop hb, dW_stop hb]
    simp only [List.nil_append, List.reverse_append, List.reverse_cons, List.reverse_reverse, List.append_assoc, List.singleton_append, List.reverse_nil]
    rw [dW_stop hb, dW_nil A hA]
    simp
theorem dW_map (l : List UInt8) : nn (l.dropWhile ([32, 9].contains ·)) = (nn l).dropWhile bl := by
  unfold nn
  rw [List.dropWhile_map]
  congr 1
  congr 1
  funext c
  show _ = bl (c.toNat : Int)
  unfold bl
  rw [Bool.eq_iff_iff, decide_eq_true_iff]
  constructor
  · intro h
    have : c = 32 ∨ c = 9 := by simpa using h
    rcases this with rfl | rfl
    · left; rfl
    · right; rfl
  · rintro (h | h)
    · have : c = 32 := int8 h
      subst this; rfl
    · have : c = 9 := int8 h
      subst this; rfl
theorem trim_any (s : ByteArray) (hs : s.size ≤ 1000000) (w : World) : Calls Tryd.prog 52 #[.string s, .string ⟨#[32, 9]⟩] w fun e W' => (∃ t, e = .returned (.string t) ∧ bn t = trm (bn s)) ∧ Below w.heap.size w W' := by
  have h := Any.strings_Trim_laid Tryd.laysTrim (by kernel_rfl) s ⟨#[32, 9]⟩ w (by omega) (by decide) (ascii_of_all (by decide))
  have hf : Tryd.laysTrim_ren.f 160 = 52 := by kernel_rfl
  rw [hf] at h
  refine h.mono ?_
  rintro e W' ⟨rfl, hB⟩
  refine ⟨⟨_, rfl, ?_⟩, hB⟩
  show nn (Lib.trimS s.data.toList [32, 9]) = _
  unfold Lib.trimS Lib.trimLeftS Lib.trimRightS
  rw [dW_map, ← trm_back, bn_nn]
  congr 1
  have e1 : ∀ l : List UInt8, nn l.reverse = (nn l).reverse := fun l => by unfold nn; rw [List.map_reverse]
  rw [e1, dW_map, e1]
set_option maxRecDepth 100000 in
theorem clone_any (s : ByteArray) (hs : s.size ≤ 281474976710656) (w : World) : Calls Tryd.prog 26 #[.string s] w fun e W' => e = .returned (.string s) ∧ Below w.heap.size w W' := by
  have HC := hid (show Calls Tryd.prog 34 #[.string s] w _ from AnyPu.stringslite_Clone Tryd.lClo s w (by omega))
  go_enter Tryd.func26, Tryd.ntmps26
  go_wp2_with fail
  refine HC.out.mono ?_
  rintro e w2 ⟨rfl, B⟩
  go_wp2
  go_ret
  exact ⟨rfl, B⟩
end Go.Proofs.YtacbfbhhhofifaaDoor.Hd
