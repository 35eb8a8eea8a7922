/- four.undotted, four.Ends. (Stage 10.) -/
import Derived.Test.YtklplalfcpigcaaDoorFL
import Derived.Test.YtklplalfcpigcaaDoorFG
import Derived.Ground.NamesProg
import Derived.Shelf.Lay
import Derived.Shelf.Strings.LastIndex
import Derived.Shelf.Strings.SlTrimAscii
namespace Go.Proofs
open Go.Shelf Go.RowKit
shelf_lay Lays.n149 Nm 149 at Tryd as Tryd.laysLast
shelf_lay Lays.n160 Nm 160 at Tryd as Tryd.laysTrim
end Go.Proofs
namespace Go.Proofs.YtklplalfcpigcaaDoor.F
open Go.RowKit
set_option linter.unusedVariables false

/-- A text without one dot at its end. -/
def ud (l : List Int) : List Int := if l.getLast? = some 46 then l.dropLast else l
theorem spl_snoc_dot : ∀ l : List Int, spl (l ++ [46]) = spl l ++ [[]]
  | [] => rfl
  | c :: l => by
    show spl (c :: (l ++ [46])) = _
    rw [spl, spl_snoc_dot l]
    conv => rhs; rw [spl]
    split
    · rfl
    · have h := spl_ne l
      cases hs : spl l with
      | nil => exact absurd hs h
      | cons a t => rfl
theorem spl_last_ne : ∀ l : List Int, l ≠ [] → l.getLast? ≠ some 46 → (spl l).getLast? ≠ some []
  | [], h, _ => absurd rfl h
  | [c], _, h => by
    have hc : c ≠ 46 := fun e => h (by rw [e]; rfl)
    rw [spl, if_neg hc]; simp [spl]
  | c :: d :: l, _, h => by
    have ih := spl_last_ne (d :: l) (by simp) (by rw [List.getLast?_cons_cons] at h; exact h)
    rw [spl]
    have h0 := spl_ne (d :: l)
    split
    · cases hs : spl (d :: l) with
      | nil => exact absurd hs h0
      | cons a t => rw [List.getLast?_cons_cons]; rw [hs] at ih; exact ih
    · cases hs : spl (d :: l) with
      | nil => exact absurd hs h0
      | cons a t =>
        rw [hs] at ih
        cases t with
        | nil => simp
        | cons b u =>
          show ((c :: a) :: b :: u).getLast? ≠ _
          rw [List.getLast?_cons_cons] at ih ⊢; exact ih
theorem prt_ud (l : List Int) : prt l = spl (ud l) := by
  unfold prt ud
  by_cases h : l.getLast? = some 46
  · have hne : l ≠ [] := fun e => by rw [e] at h; cases h
    have e : l = l.dropLast ++ [46] := by
      have h2 := List.dropLast_concat_getLast hne
      rw [List.getLast?_eq_some_getLast hne] at h
      rw [Option.some.inj h] at h2
      exact h2.symm
    have e2 : spl l = spl l.dropLast ++ [[]] := by
      conv => lhs; rw [e]
      exact spl_snoc_dot _
    have hp := List.length_pos_iff.2 (spl_ne l.dropLast)
    rw [if_pos h, e2, if_pos ⟨by rw [List.length_append]; simp; omega, by simp⟩]
    simp
  · rw [if_neg h]
    by_cases hl : l = []
    · rw [hl]; rfl
    · rw [if_neg (fun hh => spl_last_ne l hl h hh.2)]
theorem spl_last : ∀ (a b : List Int), ¬ 46 ∈ b → (spl (a ++ 46 :: b)).getLast? = some b
  | [], b, h => by
    show (spl (46 :: b)).getLast? = _
    rw [spl_dot, spl_one b h]; rfl
  | c :: a, b, h => by
    have ih := spl_last a b h
    show (spl (c :: (a ++ 46 :: b))).getLast? = _
    have h0 := spl_ne (a ++ 46 :: b)
    have hlen : 2 ≤ (spl (a ++ 46 :: b)).length := by
      clear ih h h0
      induction a with
      | nil => show 2 ≤ (spl (46 :: b)).length; rw [spl_dot]; have := List.length_pos_iff.2 (spl_ne b); simp; omega
      | cons d a ih2 =>
        show 2 ≤ (spl (d :: (a ++ 46 :: b))).length
        rw [spl]
        split
        · simp; omega
        · simp; omega
    rw [spl]
    cases hs : spl (a ++ 46 :: b) with
    | nil => exact absurd hs h0
    | cons x t =>
      rw [hs] at ih hlen
      cases t with
      | nil => simp at hlen
      | cons y u =>
        rw [List.getLast?_cons_cons] at ih
        split
        · rw [List.getLast?_cons_cons, List.getLast?_cons_cons]; exact ih
        · show ((c :: x) :: y :: u).getLast? = _
          rw [List.getLast?_cons_cons]; exact ih
/-- The same of a text. -/
def udot (s : ByteArray) : ByteArray := if (bn s).getLast? = some 46 then s.extract 0 (s.size - 1) else s
theorem udot_bn (s : ByteArray) : bn (udot s) = ud (bn s) := by
  unfold udot ud
  split
  · rw [bn_sub s 0 (s.size - 1) (Nat.zero_le _) (by omega), List.drop_zero, Nat.sub_zero, List.dropLast_eq_take, bn_length]
  · rfl
theorem udot_size (s : ByteArray) : (udot s).size ≤ s.size := by
  unfold udot
  split
  · simp
  · exact Nat.le_refl _
theorem lit1 (a : UInt8) : (⟨#[a]⟩ : ByteArray).toList = [a] := by rw [ByteArray.toList_eq]
theorem last_eq (s : ByteArray) (h : 0 < s.size) : ((s.extract (s.size - 1) s.size).toList == [46]) = decide ((bn s).getLast? = some 46) := by
  rw [← lit1, str_eq, bn_extract]
  apply decide_eq_decide.2
  rw [List.getLast?_eq_getElem?, ← bn_length] 
  rw [← bn_length] at h
  generalize bn s = l at *
  have hd : l.drop (l.length - 1) = [l[l.length - 1]'(by omega)] := by
    rw [List.drop_eq_getElem_cons (by omega), show l.length - 1 + 1 = l.length by omega, List.drop_length]
  rw [hd, List.getElem?_eq_getElem (by omega)]
  simp [bn]
set_option maxRecDepth 100000 in
set_option maxHeartbeats 1000000 in
theorem undotted_any (s : ByteArray) (w : World) (hs : s.size ≤ 100000) : Calls Tryd.prog 21 #[.string s] w fun e W' => e = .returned (.string (udot s)) ∧ W' = w := by
  by_cases h1 : 1 ≤ s.size
  · have h1z : (1 : Int) ≤ (s.size : Int) := by omega
    have he := last_eq s h1
    have HU : Hid (udot s = if (bn s).getLast? = some 46 then s.extract 0 (s.size - 1) else s) := rfl
    by_cases hq : (bn s).getLast? = some 46
    · rw [decide_eq_true hq] at he
      rw [HU.out, if_pos hq]
      clear HU hq
      go_enter Tryd.func21, Tryd.ntmps21
      go_wp2
      go_ret
      exact ⟨rfl, rfl⟩
    · rw [decide_eq_false hq] at he
      rw [HU.out, if_neg hq]
      clear HU hq
      go_enter Tryd.func21, Tryd.ntmps21
      go_wp2
      go_ret
      exact ⟨rfl, rfl⟩
  · have h1z : ¬ (1 : Int) ≤ (s.size : Int) := by omega
    have hu : udot s = s := by
      unfold udot
      have : bn s = [] := List.length_eq_zero_iff.1 (by rw [bn_length]; omega)
      rw [this, if_neg (by simp)]
    rw [hu]
    clear hu
    go_enter Tryd.func21, Tryd.ntmps21
    go_wp2
    go_ret
    exact ⟨rfl, rfl⟩
/-! ### The last part -/
theorem lasti_any (s : ByteArray) (w : World) (hs : s.size ≤ 100000) : Calls Tryd.prog 23 #[.string s, .int .u8 46] w fun e W' => e = .returned (.int .i64 (Lib.lastIndexByte s 46)) ∧ W' = w := by
  have h := Any.strings_LastIndexByte Tryd.laysLast s 46 (by omega) w
  have hf : Tryd.laysLast_ren.f 149 = 23 := by kernel_rfl
  rw [hf] at h
  exact h
def digs : ByteArray := ⟨#[48, 49, 50, 51, 52, 53, 54, 55, 56, 57]⟩
theorem trim_any (s : ByteArray) (w : World) (hs : s.size ≤ 100000) : Calls Tryd.prog 25 #[.string s, .string digs] w fun e W' => e = .returned (.string ⟨(Lib.trimS s.data.toList digs.data.toList).toArray⟩) ∧ Below w.heap.size w W' := by
  have h := Any.strings_Trim_laid Tryd.laysTrim (by kernel_rfl) s digs w (by omega) (by decide) (ascii_of_all (by decide))
  have hf : Tryd.laysTrim_ren.f 160 = 25 := by kernel_rfl
  rw [hf] at h
  exact h
theorem bang_bn (s : ByteArray) (j : Nat) (h : j < s.size) : ((s.data[j]!).toNat : Int) = (bn s)[j]?.getD 0 := by
  rw [bn_get s j h]
  have : s.data[j]! = s[j] := LastIndex.byteBang s j h
  rw [this]
/-- Where the last part begins. -/
theorem last_part (s : ByteArray) : ∃ k : Nat, k ≤ s.size ∧ Lib.lastIndexByte s 46 = (k : Int) - 1 ∧ (spl (bn s)).getLast? = some (bn (s.extract k s.size)) := by
  rcases Lib.lastIndexByte_spec s 46 with ⟨h1, h2⟩ | ⟨i, hi, h1, h2, h3⟩
  · refine ⟨0, Nat.zero_le _, by rw [h1]; rfl, ?_⟩
    rw [bn_extract, List.drop_zero]
    have hn : ¬ 46 ∈ bn s := by
      intro hm
      obtain ⟨j, hj, e⟩ := List.mem_iff_getElem.1 hm
      rw [bn_length] at hj
      refine h2 j hj ?_
      rw [bang_bn s j hj, List.getElem?_eq_getElem (by rw [bn_length]; exact hj), e]; rfl
    rw [spl_one _ hn]; rfl
  · refine ⟨i + 1, by omega, by rw [h1]; omega, ?_⟩
    rw [bn_extract]
    rw [bang_bn s i hi] at h2
    have e : bn s = (bn s).take i ++ 46 :: (bn s).drop (i + 1) := by
      have h4 : i < (bn s).length := by rw [bn_length]; exact hi
      have h5 : (bn s).drop i = 46 :: (bn s).drop (i + 1) := by
        rw [List.drop_eq_getElem_cons h4]
        rw [List.getElem?_eq_getElem h4] at h2
        rw [show (bn s)[i] = 46 from h2]
      rw [← h5, List.take_append_drop]
    have hn : ¬ 46 ∈ (bn s).drop (i + 1) := by
      intro hm
      obtain ⟨j, hj, e⟩ := List.mem_iff_getElem.1 hm
      rw [List.length_drop, bn_length] at hj
      refine h3 (i + 1 + j) (by omega) (by omega) ?_
      rw [bang_bn s _ (by omega), List.getElem?_eq_getElem (by rw [bn_length]; omega)]
      rw [List.getElem_drop] at e
      exact e
    conv => lhs; rw [e]
    exact spl_last _ _ hn
theorem contains_ten : ∀ n : Fin 256, (digs.data.toList.contains (UInt8.ofNat n.val)) = ten (n.val : Int) := by decide +kernel
theorem contains_dig (b : UInt8) : digs.data.toList.contains b = ten (b.toNat : Int) := by
  have h := contains_ten ⟨b.toNat, b.toNat_lt⟩
  simp only [UInt8.ofNat_toNat] at h
  exact h
theorem dw_nil {p : UInt8 → Bool} : ∀ {l : List UInt8}, l.dropWhile p = [] ↔ ∀ b ∈ l, p b = true
  | [] => by simp
  | a :: l => by
    rw [List.dropWhile_cons]
    cases h : p a with
    | true => rw [if_pos rfl, dw_nil]; simp [h]
    | false => simp [h]
theorem tw_mem {p : UInt8 → Bool} {b : UInt8} : ∀ {l : List UInt8}, b ∈ l.takeWhile p → p b = true
  | [], h => by simp at h
  | a :: l, h => by
    rw [List.takeWhile_cons] at h
    cases hp : p a with
    | true =>
      rw [hp, if_pos rfl, List.mem_cons] at h
      rcases h with rfl | h
      · exact hp
      · exact tw_mem h
    | false => rw [hp] at h; simp at h
theorem bne8 (y : Int) : (y != 8) = decide (y ≠ 8) := by by_cases h : y = 8 <;> simp [h]
theorem trim_nil (l cs : List UInt8) : (Lib.trimS l cs = []) ↔ ∀ b ∈ l, cs.contains b = true := by
  unfold Lib.trimS Lib.trimLeftS Lib.trimRightS
  constructor
  · intro h b hb
    rw [dw_nil] at h
    have h2 := List.takeWhile_append_dropWhile (p := (cs.contains ·)) (l := l.reverse)
    have hb' : b ∈ l.reverse := List.mem_reverse.2 hb
    rw [← h2, List.mem_append] at hb'
    rcases hb' with hb' | hb'
    · exact tw_mem hb'
    · exact h b (List.mem_reverse.2 hb')
  · intro h
    have : l.reverse.dropWhile (cs.contains ·) = [] := dw_nil.2 (fun b hb => h b (List.mem_reverse.1 hb))
    rw [this]; rfl
theorem trim_ten (s : ByteArray) : (⟨(Lib.trimS s.data.toList digs.data.toList).toArray⟩ : ByteArray).toList.isEmpty = (bn s).all ten := by
  rw [ByteArray.toList_eq, Bool.eq_iff_iff, List.isEmpty_iff, List.all_eq_true]
  show Lib.trimS _ _ = [] ↔ _
  rw [trim_nil]
  unfold bn
  constructor
  · intro h x hx
    obtain ⟨b, hb, rfl⟩ := List.mem_map.1 hx
    rw [← contains_dig]; exact h b hb
  · intro h b hb
    rw [contains_dig]; exact h _ (List.mem_map.2 ⟨b, hb, rfl⟩)
theorem endP_x {p : List Int} (h : isX p = true) : endP p = decide ((num p).2 ≠ 8) := by
  unfold endP
  have hx := of_decide_eq_true h
  have : p.all ten = false := by
    rw [Bool.eq_false_iff]
    intro ha
    match p, hx with
    | [], hx => simp at hx
    | [a], hx => simp at hx
    | a :: b :: r, hx =>
      have h1 := List.all_eq_true.1 ha b (by simp)
      have h2 := of_decide_eq_true h1
      have h3 : b = 120 ∨ b = 88 := by simpa using hx.2.2
      omega
  rw [this, h, Bool.and_false, Bool.false_or, Bool.true_and]
theorem endP_n {p : List Int} (h : isX p = false) : endP p = (decide (p ≠ []) && p.all ten) := by unfold endP; rw [h]; simp
set_option maxRecDepth 100000 in
set_option maxHeartbeats 4000000 in
theorem ends_any (s : ByteArray) (w : World) (hs : s.size ≤ 100000) :
    Calls Tryd.prog 12 #[.string s] w fun e W' => e = .returned (.bool (ends (bn s))) ∧ Below w.heap.size w W' := by
  have HU := hid (fun W => undotted_any s W hs)
  have hus := udot_size s
  have HE : Hid (ends (bn s) = endP ((spl (bn (udot s))).getLast?.getD [])) := by show _ = _; unfold ends; rw [prt_ud, udot_bn]
  obtain ⟨U, hU⟩ : ∃ U, udot s = U := ⟨_, rfl⟩
  rw [hU] at HU hus HE
  clear hU
  have HLI := hid (fun W => lasti_any U W (by omega))
  obtain ⟨k, hk, hli, hlp⟩ := last_part U
  rw [hli] at HLI
  rw [hlp] at HE
  clear hli hlp
  obtain ⟨D, hD⟩ : ∃ D, U.extract k U.size = D := ⟨_, rfl⟩
  have hDs : D.size ≤ 100000 := by rw [← hD]; simp; omega
  rw [hD] at HE
  have HSX := hid (fun W => sixteen_any D W hDs)
  have HNU := hid (fun W => number_any D W hDs)
  have HTR := hid (fun W => trim_any D W hDs)
  have HTT := hid (trim_ten D)
  have HEX := hid (endP_x (p := bn D))
  have HEN := hid (endP_n (p := bn D))
  have hkz : (k : Int) - 1 + 1 = (k : Int) := by omega
  have HB : Hid (Below w.heap.size w w) := Below.refl _ _
  rw [HE.out]
  clear HE
  show Calls _ _ _ _ fun e W' => e = .returned (.bool (endP (bn D))) ∧ _
  cases hX : isX (bn D) with
  | true =>
    rw [HEX.out hX]
    rw [hX] at HSX
    unfold NumR at HNU
    obtain ⟨⟨x, y⟩, hxy⟩ : ∃ p, num (bn D) = p := ⟨_, rfl⟩
    rw [hxy] at HNU ⊢
    clear HEX HEN hX hxy HTR HTT
    go_enter Tryd.func12, Tryd.ntmps12
    go_wp2_with (first
      | (go_at_call 21; refine (HU.out _).mono ?_; rintro e w2 ⟨rfl, hw2⟩; obtain rfl := hw2.symm)
      | (go_at_call 23; refine (HLI.out _).mono ?_; rintro e w2 ⟨rfl, hw2⟩; obtain rfl := hw2.symm)
      | (go_at_call 24; refine (HSX.out _).mono ?_; rintro e w2 ⟨rfl, hw2⟩; obtain rfl := hw2.symm)
      | (go_at_call 8; refine (HNU.out _).mono ?_; rintro e w2 ⟨rfl, B2⟩))
    go_ret
    exact ⟨by rw [← bne8]; rfl, B2⟩
  | false =>
    rw [HEN.out hX]
    rw [hX] at HSX
    rw [← HTT.out]
    clear HEX HEN hX HTT HNU
    by_cases hd0 : D.size = 0
    · have he : D.toList.isEmpty = true := isEmpty_true D hd0
      have hn : decide (bn D ≠ []) = false := decide_eq_false (fun h => h (List.length_eq_zero_iff.1 (by rw [bn_length]; exact hd0)))
      rw [hn, Bool.false_and]
      clear hn HTR hd0
      go_enter Tryd.func12, Tryd.ntmps12
      go_wp2_with (first
        | (go_at_call 21; refine (HU.out _).mono ?_; rintro e w2 ⟨rfl, hw2⟩; obtain rfl := hw2.symm)
        | (go_at_call 23; refine (HLI.out _).mono ?_; rintro e w2 ⟨rfl, hw2⟩; obtain rfl := hw2.symm)
        | (go_at_call 24; refine (HSX.out _).mono ?_; rintro e w2 ⟨rfl, hw2⟩; obtain rfl := hw2.symm))
      go_ret
      exact ⟨rfl, HB.out⟩
    · have he : D.toList.isEmpty = false := isEmpty_false D (by omega)
      have hn : decide (bn D ≠ []) = true := decide_eq_true (fun h => hd0 (by rw [← bn_length, h]; rfl))
      rw [hn, Bool.true_and]
      clear hn hd0
      obtain ⟨T, hT⟩ : ∃ T : ByteArray, (⟨(Lib.trimS D.data.toList digs.data.toList).toArray⟩ : ByteArray) = T := ⟨_, rfl⟩
      rw [hT] at HTR ⊢
      clear hT
      unfold digs at HTR
      go_enter Tryd.func12, Tryd.ntmps12
      go_wp2_with (first
        | (go_at_call 21; refine (HU.out _).mono ?_; rintro e w2 ⟨rfl, hw2⟩; obtain rfl := hw2.symm)
        | (go_at_call 23; refine (HLI.out _).mono ?_; rintro e w2 ⟨rfl, hw2⟩; obtain rfl := hw2.symm)
        | (go_at_call 24; refine (HSX.out _).mono ?_; rintro e w2 ⟨rfl, hw2⟩; obtain rfl := hw2.symm)
        | (go_at_call 25; refine (HTR.out _).mono ?_; rintro e w2 ⟨rfl, B2⟩))
      go_ret
      exact ⟨rfl, B2⟩
end Go.Proofs.YtklplalfcpigcaaDoor.F
