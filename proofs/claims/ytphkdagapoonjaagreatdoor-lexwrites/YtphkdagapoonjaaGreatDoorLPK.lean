/- lex.tokens. (Stage 15.) (Written by mk_lpk.py.) -/
import Derived.Test.YtphkdagapoonjaaGreatDoorZLHA
import Derived.WalkMore
namespace Go.Proofs.YtphkdagapoonjaaGreatDoor.Lx
open Go.RowKit
open Go.Proofs.YtphkdagapoonjaaGreatDoor.F (bn bn_length bn_append bn_inj bn_get byte_bd hid bn_extract isEmpty_false isEmpty_true str_eq same_eq)
open Go.Proofs.YtphkdagapoonjaaGreatDoor.U (nx enc encs scal val Bytes)
set_option linter.unusedVariables false

theorem word2_any (s : ByteArray) (hs : s.size ≤ 1000000000) (w : World) : Calls Tryz.prog 38 #[.string s] w fun e w' => (∃ u : ByteArray, bn u = (bn s).takeWhile nen ∧ e = .returned (.string u)) ∧ Below w.heap.size w w' := by
  refine (word_any s hs w).mono ?_
  rintro e w' ⟨rfl, B⟩
  refine ⟨⟨_, ?_, rfl⟩, B⟩
  have e1 : bn (s.extract 0 ((bn s).takeWhile nen).length) = (bn s).take ((bn s).takeWhile nen).length := by
    unfold bn
    simp only [ByteArray.data_extract, Array.toList_extract, List.extract_eq_take_drop, List.drop_zero, Nat.sub_zero, List.map_take]
  rw [e1]
  exact (List.prefix_iff_eq_take.1 (List.takeWhile_prefix _)).symm
theorem boxed_kept {w W : World} {B : Nat} {T : TypeId} {v : Value} (h : Boxed w B T v) (hb : Below w.heap.size w W) : Boxed W B T v := by
  have h1 : w.heap[B]? = some (Obj.cells #[v] T (0, 0)) := h
  exact (hb.block B (Array.getElem?_eq_some_iff.1 h1).1).trans h1
/-- What tokens answers, or how it ends. -/
def TksR (l : List Int) (n : Nat) (base : Nat) (e : Ending) (W' : World) : Prop :=
  match lnF l.length [] l 0 n with
  | (_, some k) => e = .panicked (faultV 151 n k)
  | (o, none) => ∃ (v : Value) (ts : List Tb), TokOwn W' base v ts ∧ ts.map Tb.tk = (if o.length = 0 then [] else o ++ [⟨5, [], n, l.length⟩]) ∧ (∀ t ∈ ts, 0 ≤ t.n ∧ 0 ≤ t.a) ∧ e = .returned v
theorem TksR.bad {l : List Int} {n base k : Nat} {o : List Tk} (h : lni l n [] 0 = (o, some k)) (W : World) : TksR l n base (.panicked (faultV 151 n k)) W := by
  rw [lni_zero] at h
  unfold TksR; rw [h]
theorem TksR.nil {l : List Int} {n base : Nat} {o : List Tb} (h : lni l n [] 0 = (o.map Tb.tk, none)) (h0 : o.length = 0) {W : World} {v : Value} (hv : TokOwn W base v o) : TksR l n base (.returned v) W := by
  rw [lni_zero] at h
  unfold TksR; rw [h]
  refine ⟨v, o, hv, ?_, ?_, rfl⟩
  · rw [List.length_map, if_pos h0, List.length_eq_zero_iff.1 h0]; rfl
  · rw [List.length_eq_zero_iff.1 h0]; intro t ht; cases ht
theorem TksR.many {s : ByteArray} {n base : Nat} {o : List Tb} (h : lni (bn s) n [] 0 = (o.map Tb.tk, none)) (h0 : o.length ≠ 0) (hp : ∀ t ∈ o, 0 ≤ t.n ∧ 0 ≤ t.a) {W : World} {v : Value} (hv : TokOwn W base v (o ++ [⟨5, ⟨#[]⟩, (n : Int), (s.size : Int)⟩])) : TksR (bn s) n base (.returned v) W := by
  rw [lni_zero] at h
  unfold TksR; rw [h]
  refine ⟨v, _, hv, ?_, ?_, rfl⟩
  · rw [List.length_map, if_neg h0, List.map_append, bn_length]; rfl
  · intro t ht
    rcases List.mem_append.1 ht with ht | ht
    · exact hp t ht
    · rw [List.mem_singleton.1 ht]; exact ⟨by simp only; omega, by simp only; omega⟩
set_option maxRecDepth 100000 in
set_option maxHeartbeats 8000000 in
theorem tokens_any (s : ByteArray) (hs : s.size ≤ 1000000) (n : Nat) (hn : n ≤ 1000000000) (w : World) (G : Gl w) : Calls Tryz.prog 17 #[.string s, .int .i64 (n : Int)] w fun e W' => TksR (bn s) n w.heap.size e W' ∧ Below w.heap.size w W' := by
  have hmf : ∀ (fn : Fn) (first cap : Array Value) (w : World), (Instr.makeFunc fn first cap).run Tryz.prog w = .ok (.func fn first cap) w := fun _ _ _ _ => rfl
  obtain ⟨R, hR⟩ : ∃ R, lni (bn s) n [] 0 = R := ⟨_, rfl⟩
  have HR := hid hR
  have HG := hid (fun W (h : Below w.heap.size w W) => G.below h)
  have HAT := hid (fun i y o hi hy => lni_at (l := bn s) (n := n) (i := i) (y := y) (by rw [bn_length]; exact hi) hy o)
  have HEN := hid (fun i o (hi : s.size ≤ i) => lni_end (l := bn s) (n := n) (i := i) (by rw [bn_length]; exact hi) o)
  have HGT := hid (bn_get s)
  have HBY := hid (fun j (h : j < s.size) => byte_bd (s := s) h)
  have bN := (Boxed.new w 3 (.int .i64 n)).alloc (.cells #[.slice none 0 0] 23)
  have bL := Boxed.new (w.alloc (.cells #[.int .i64 n] 3)) 23 (.slice none 0 0)
  rw [World.size_alloc] at bL
  have HN0 := hid bN
  have HL0 := hid bL
  have HB0 : Hid (Below w.heap.size w ((w.alloc (.cells #[.int .i64 n] 3)).alloc (.cells #[.slice none 0 0] 23))) := ((Below.refl _ w).alloc (Nat.le_refl _) _).alloc (by simp) _
  clear G bN bL hR
  go_enter Tryz.func17, Tryz.ntmps17
  go_wp2
  go_step3
  go_wp2
  go_step3
  go_wp2
  go_loopw [7] (fun vi wr => ∃ (i : Nat) (o : List Tb) (v : Value), vi = .int .i64 (i : Int) ∧ i ≤ s.size ∧ o.length ≤ i ∧ Hid (Boxed wr (w.heap.size + 1) 23 v) ∧ Hid (TokOwn wr w.heap.size v o) ∧ Hid (Boxed wr w.heap.size 3 (.int .i64 n)) ∧ Hid (lni (bn s) n (o.map Tb.tk) i = R) ∧ Hid (∀ t ∈ o, 0 ≤ t.n ∧ 0 ≤ t.a) ∧ Hid (Below w.heap.size w wr)) (fun vi _ => s.size - (intOf vi).toNat)
  case atStart => exact ⟨0, [], _, rfl, Nat.zero_le _, Nat.zero_le _, HL0.out, TokOwn.nil _ _, HN0.out, HR.out, fun t ht => (by cases ht), HB0.out⟩
  case round =>
    obtain ⟨i, o, v, rfl, hi, hol, HLB, HO, HNB, HRI, HP, HW⟩ := hrel
    obtain ⟨a, c, hv⟩ := HO.out.form
    subst hv
    have zw := HW.out.size
    by_cases hlt : i < s.size
    rotate_left
    · have HR2 : Hid (lni (bn s) n [] 0 = (o.map Tb.tk, none)) := by
        show _ = _
        rw [HR.out, ← HRI.out, HEN.out i _ (by omega)]
      clear HRI HAT HEN HGT HBY HN0 HL0 HB0 HR HG
      have cL := HLB.out.cell
      have HADD : Hid (Calls Tryz.prog 36 #[.int .u8 5, .string ⟨#[]⟩, .int .i64 (s.size : Int), .pointer (some ⟨w.heap.size + 1, 0, none⟩), .pointer (some ⟨w.heap.size, 0, none⟩)] wr _) := add_any 5 (by decide) ⟨#[]⟩ (s.size : Int) (n : Int) (w.heap.size + 1) w.heap.size w.heap.size _ o wr HLB.out HNB.out HO.out (by omega) (by omega) HW.out.size
      by_cases ho : o.length = 0
      · have hoz : ¬ (0 : Int) < (o.length : Int) := by omega
        have HF : Hid (TksR (bn s) n w.heap.size (.returned (.slice a o.length c)) wr) := TksR.nil HR2.out ho HO.out
        clear HADD ho HR2
        go_wp2
        go_ret
        exact ⟨HF.out, HW.out⟩
      · have hoz : (0 : Int) < (o.length : Int) := by omega
        have HF : Hid (∀ W v, TokOwn W w.heap.size v (o ++ [⟨5, ⟨#[]⟩, (n : Int), (s.size : Int)⟩]) → TksR (bn s) n w.heap.size (.returned v) W) := fun W v h => TksR.many HR2.out ho HP.out h
        clear HR2 ho
        go_wp2_with fail
        refine HADD.out.mono ?_
        rintro e w7 ⟨rfl, ⟨v7, h1, h2⟩, h3, h4⟩
        have HB7 := hid (HW.out.trans h4)
        obtain ⟨a7, c7, e7⟩ := h2.form
        subst e7
        have HF7 : Hid (TksR (bn s) n w.heap.size (.returned (.slice a7 (o.length + 1) c7)) w7) := by have q := HF.out w7 _ h2; rw [List.length_append] at q; exact q
        have c1 := h1.cell
        clear h1 h2 h3 h4 HADD HF
        go_wp2
        rw [Exit.noGoto_ret]
        go_ret
        exact ⟨HF7.out, HB7.out⟩
    have gy := (HGT.out i hlt).symm
    obtain ⟨z0, z1⟩ := HBY.out i hlt
    have HA := hid (fun y hy => HAT.out i y (o.map Tb.tk) hlt hy)
    obtain ⟨y, hy⟩ : ∃ y, (bn s)[i]?.getD 0 = y := ⟨_, rfl⟩
    rw [hy] at gy z0 z1
    have HA2 := hid (HA.out y hy)
    clear hy HA HAT HEN HGT HBY HN0 HL0 HB0
    by_cases h32 : y = 32 ∨ y = 9
    · have HN := hid ((HA2.out.2.1 h32).symm.trans HRI.out)
      have hq : (y == 32) = true ∨ (y == 32) = false ∧ (y == 9) = true := by rcases h32 with h | h <;> subst h <;> simp
      clear HA2 HRI h32
      rcases hq with q | ⟨q, q2⟩
      all_goals
        go_wp2
        go_roundw
        case rel => exact ⟨i + 1, o, _, by go_num, by omega, by omega, HLB.out, HO.out, HNB.out, HN.out, HP.out, HW.out⟩
        case measure => simp [intOf]; omega
    have q1 : (y == 32) = false := by simp; omega
    have q2 : (y == 9) = false := by simp; omega
    by_cases h35 : y = 35
    · have q35 : (y == 35) = true := by simpa using h35
      have HR2 : Hid (lni (bn s) n [] 0 = (o.map Tb.tk, none)) := by
        show _ = _
        rw [HR.out, ← HRI.out, HA2.out.1 h35]
      clear HRI HA2 HR HG h35 h32
      have cL := HLB.out.cell
      have HADD : Hid (Calls Tryz.prog 36 #[.int .u8 5, .string ⟨#[]⟩, .int .i64 (s.size : Int), .pointer (some ⟨w.heap.size + 1, 0, none⟩), .pointer (some ⟨w.heap.size, 0, none⟩)] wr _) := add_any 5 (by decide) ⟨#[]⟩ (s.size : Int) (n : Int) (w.heap.size + 1) w.heap.size w.heap.size _ o wr HLB.out HNB.out HO.out (by omega) (by omega) HW.out.size
      by_cases ho : o.length = 0
      · have hoz : ¬ (0 : Int) < (o.length : Int) := by omega
        have HF : Hid (TksR (bn s) n w.heap.size (.returned (.slice a o.length c)) wr) := TksR.nil HR2.out ho HO.out
        clear HADD ho HR2
        go_wp2
        go_ret
        exact ⟨HF.out, HW.out⟩
      · have hoz : (0 : Int) < (o.length : Int) := by omega
        have HF : Hid (∀ W v, TokOwn W w.heap.size v (o ++ [⟨5, ⟨#[]⟩, (n : Int), (s.size : Int)⟩]) → TksR (bn s) n w.heap.size (.returned v) W) := fun W v h => TksR.many HR2.out ho HP.out h
        clear HR2 ho
        go_wp2_with fail
        refine HADD.out.mono ?_
        rintro e w7 ⟨rfl, ⟨v7, h1, h2⟩, h3, h4⟩
        have HB7 := hid (HW.out.trans h4)
        obtain ⟨a7, c7, e7⟩ := h2.form
        subst e7
        have HF7 : Hid (TksR (bn s) n w.heap.size (.returned (.slice a7 (o.length + 1) c7)) w7) := by have q := HF.out w7 _ h2; rw [List.length_append] at q; exact q
        have c1 := h1.cell
        clear h1 h2 h3 h4 HADD HF
        go_wp2
        rw [Exit.noGoto_ret]
        go_ret
        exact ⟨HF7.out, HB7.out⟩
    have q35 : (y == 35) = false := by simpa using h35
    by_cases h44 : y = 44
    · have q44 : (y == 44) = true := by simpa using h44
      have HN := hid ((HA2.out.2.2.1 h44).symm.trans HRI.out)
      have HC : Hid (Calls Tryz.prog 36 #[.int .u8 3, .string ⟨#[]⟩, .int .i64 (i : Int), .pointer (some ⟨w.heap.size + 1, 0, none⟩), .pointer (some ⟨w.heap.size, 0, none⟩)] wr _) := add_any 3 (by decide) ⟨#[]⟩ (i : Int) (n : Int) (w.heap.size + 1) w.heap.size w.heap.size _ o wr HLB.out HNB.out HO.out (by omega) (by omega) HW.out.size
      clear HA2 HRI h35 h32 h44 HR HG
      go_wp2_with fail
      refine HC.out.mono ?_
      rintro e w7 ⟨rfl, ⟨v7, h1', h2'⟩, h3', h4⟩
      have h4' := HW.out.trans h4
      have HT := hid (And.intro h1' (And.intro h2' (And.intro h3' h4')))
      clear HC h1' h2' h3' h4 h4'
      go_wp2
      obtain ⟨h1', h2', h3', h4'⟩ := HT.out
      replace HN : Hid (lni (bn s) n (List.map Tb.tk (o ++ [⟨3, ⟨#[]⟩, (n : Int), (i : Int)⟩])) (i + 1) = R) := by show _ = _; rw [List.map_append]; exact HN.out
      go_roundw
      case rel => exact ⟨i + 1, o ++ [_], v7, by go_num, by omega, by simp; omega, h1', h2', h3', HN.out, fun t ht => (List.mem_append.1 ht).elim (HP.out t) (fun h => by rw [List.mem_singleton.1 h]; exact ⟨by simp only; omega, by simp only; omega⟩), h4'⟩
      case measure => simp [intOf]; omega
    have q44 : (y == 44) = false := by simpa using h44
    by_cases h33 : y = 33
    · have q33 : (y == 33) = true := by simpa using h33
      have HN := hid ((HA2.out.2.2.2.1 h33).symm.trans HRI.out)
      have HC : Hid (Calls Tryz.prog 36 #[.int .u8 4, .string ⟨#[]⟩, .int .i64 (i : Int), .pointer (some ⟨w.heap.size + 1, 0, none⟩), .pointer (some ⟨w.heap.size, 0, none⟩)] wr _) := add_any 4 (by decide) ⟨#[]⟩ (i : Int) (n : Int) (w.heap.size + 1) w.heap.size w.heap.size _ o wr HLB.out HNB.out HO.out (by omega) (by omega) HW.out.size
      clear HA2 HRI h35 h32 h44 h33 HR HG
      go_wp2_with fail
      refine HC.out.mono ?_
      rintro e w7 ⟨rfl, ⟨v7, h1', h2'⟩, h3', h4⟩
      have h4' := HW.out.trans h4
      have HT := hid (And.intro h1' (And.intro h2' (And.intro h3' h4')))
      clear HC h1' h2' h3' h4 h4'
      go_wp2
      obtain ⟨h1', h2', h3', h4'⟩ := HT.out
      replace HN : Hid (lni (bn s) n (List.map Tb.tk (o ++ [⟨4, ⟨#[]⟩, (n : Int), (i : Int)⟩])) (i + 1) = R) := by show _ = _; rw [List.map_append]; exact HN.out
      go_roundw
      case rel => exact ⟨i + 1, o ++ [_], v7, by go_num, by omega, by simp; omega, h1', h2', h3', HN.out, fun t ht => (List.mem_append.1 ht).elim (HP.out t) (fun h => by rw [List.mem_singleton.1 h]; exact ⟨by simp only; omega, by simp only; omega⟩), h4'⟩
      case measure => simp [intOf]; omega
    have q33 : (y == 33) = false := by simpa using h33
    by_cases h34 : y = 34
    · have q34 : (y == 34) = true := by simpa using h34
      have HQ := hid (quoted_any s hs i hlt n wr (HG.out wr HW.out))
      have hle := txl_le (l := (bn s).drop i) (by rw [List.length_drop, bn_length]; omega)
      rw [List.length_drop, bn_length] at hle
      have HA5 := hid (HA2.out.2.2.2.2.1 h34)
      have HA6 := hid (HA2.out.2.2.2.2.2.1 h34)
      unfold QuoR at HQ
      obtain ⟨⟨x, k, wh⟩, hX⟩ : ∃ X, txl ((bn s).drop i) = X := ⟨_, rfl⟩
      simp only [hX] at HQ HA5 HA6 hle
      obtain ⟨hle1, hle2⟩ := hle
      have cN := HNB.out.cell
      clear hX HA2 h35 h32 h44 h33 h34 HG
      go_wp2_with fail
      refine HQ.out.mono ?_
      rintro e w5 ⟨⟨hk, t, ht, rfl⟩ | ⟨hk, rfl⟩, B⟩
      · have HN := hid ((HA6.out hk).symm.trans HRI.out)
        rw [← ht] at HN
        have h1 : Boxed w5 (w.heap.size + 1) 23 _ := boxed_kept HLB.out B
        have h2 := HO.out.below B
        have h3 : Boxed w5 w.heap.size 3 _ := boxed_kept HNB.out B
        have h4 := hid (HW.out.trans (B.mono zw))
        have HC : Hid (Calls Tryz.prog 36 #[.int .u8 2, .string t, .int .i64 (i : Int), .pointer (some ⟨w.heap.size + 1, 0, none⟩), .pointer (some ⟨w.heap.size, 0, none⟩)] w5 _) := add_any 2 (by decide) t (i : Int) (n : Int) (w.heap.size + 1) w.heap.size w.heap.size _ o w5 h1 h3 h2 (by omega) (by omega) h4.out.size
        have hk0 : k ≠ 0 := hk
        clear HA5 HA6 HRI HR HQ ht h1 h2 h3 B hk
        go_wp2_with fail
        refine HC.out.mono ?_
        rintro e w7 ⟨rfl, ⟨v7, h1', h2'⟩, h3', h5⟩
        have h4' := h4.out.trans h5
        have HT := hid (And.intro h1' (And.intro h2' (And.intro h3' h4')))
        clear HC h1' h2' h3' h5 h4'
        go_wp2
        obtain ⟨h1', h2', h3', h4'⟩ := HT.out
        replace HN : Hid (lni (bn s) n (List.map Tb.tk (o ++ [⟨2, t, (n : Int), (i : Int)⟩])) (i + k) = R) := by show _ = _; rw [List.map_append]; exact HN.out
        go_roundw
        case rel => exact ⟨i + k, o ++ [_], v7, by go_num, by omega, by simp; omega, h1', h2', h3', HN.out, fun t ht => (List.mem_append.1 ht).elim (HP.out t) (fun h => by rw [List.mem_singleton.1 h]; exact ⟨by simp only; omega, by simp only; omega⟩), h4'⟩
        case measure => simp [intOf]; omega
      · have HF : Hid (TksR (bn s) n w.heap.size (.panicked (faultV 151 n ((i + wh : Nat) : Int))) w5) := TksR.bad (o := []) (by rw [HR.out, ← HRI.out, HA5.out hk]) w5
        have HB5 := hid (HW.out.trans (B.mono zw))
        clear HA5 HA6 HRI HR HQ B hk
        go_wp2
        exact ⟨rfl, HF.out, HB5.out⟩
    have q34 : (y == 34) = false := by simpa using h34
    have hen : en y = false := by unfold en; simp; omega
    have HA7 := hid (HA2.out.2.2.2.2.2.2 hen)
    have HWD := hid (word2_any (s.extract i s.size) (by simp; omega) wr)
    have HLEN : Hid ((wrd (bn s) i).length ≤ s.size - i) := by
      show _ ≤ _
      unfold wrd
      have := (List.takeWhile_sublist (l := (bn s).drop i) nen).length_le
      rw [List.length_drop, bn_length] at this
      exact this
    rw [bn_extract] at HWD
    clear HA2 h35 h32 h44 h33 h34 hen HG HR
    go_wp2_with fail
    refine HWD.out.mono ?_
    rintro e w5 ⟨⟨u, hu, rfl⟩, B⟩
    have hu2 : bn u = wrd (bn s) i := hu
    have hul : u.size = (wrd (bn s) i).length := by rw [← hu2, bn_length]
    have hu1 : 1 ≤ u.size ∧ i + u.size ≤ s.size := by have h1 := HA7.out.2; have h2 := HLEN.out; omega
    have HN : Hid (lni (bn s) n (o.map Tb.tk ++ [⟨1, bn u, n, i⟩]) (i + u.size) = R) := by
      show _ = _
      rw [hu2, hul, ← HRI.out]
      exact HA7.out.1.symm
    obtain ⟨hu1, hu3⟩ := hu1
    have h1 : Boxed w5 (w.heap.size + 1) 23 _ := boxed_kept HLB.out B
    have h2 := HO.out.below B
    have h3 : Boxed w5 w.heap.size 3 _ := boxed_kept HNB.out B
    have h4 := hid (HW.out.trans (B.mono zw))
    have HCL := hid (clone_any u (by omega) w5)
    have HH := hid (And.intro h1 (And.intro h2 h3))
    clear HA7 HRI HWD hu hu2 hul h1 h2 h3 B HLEN
    go_wp2_with fail
    refine HCL.out.mono ?_
    rintro e w6 ⟨rfl, B⟩
    obtain ⟨h1, h2, h3⟩ := HH.out
    have g1 : Boxed w6 (w.heap.size + 1) 23 _ := boxed_kept h1 B
    have g2 := h2.below B
    have g3 : Boxed w6 w.heap.size 3 _ := boxed_kept h3 B
    have h6 := hid (h4.out.trans (B.mono h4.out.size))
    have HC : Hid (Calls Tryz.prog 36 #[.int .u8 1, .string u, .int .i64 (i : Int), .pointer (some ⟨w.heap.size + 1, 0, none⟩), .pointer (some ⟨w.heap.size, 0, none⟩)] w6 _) := add_any 1 (by decide) u (i : Int) (n : Int) (w.heap.size + 1) w.heap.size w.heap.size _ o w6 g1 g3 g2 (by omega) (by omega) h6.out.size
    clear h1 h2 h3 g1 g2 g3 B HH HCL
    go_wp2_with fail
    refine HC.out.mono ?_
    rintro e w7 ⟨rfl, ⟨v7, h1', h2'⟩, h3', h5⟩
    have h4' := h6.out.trans h5
    have HT := hid (And.intro h1' (And.intro h2' (And.intro h3' h4')))
    clear HC h1' h2' h3' h5 h4'
    go_wp2
    obtain ⟨h1', h2', h3', h4'⟩ := HT.out
    replace HN : Hid (lni (bn s) n (List.map Tb.tk (o ++ [⟨1, u, (n : Int), (i : Int)⟩])) (i + u.size) = R) := by show _ = _; rw [List.map_append]; exact HN.out
    go_roundw
    case rel => exact ⟨i + u.size, o ++ [_], v7, by go_num, by omega, by simp; omega, h1', h2', h3', HN.out, fun t ht => (List.mem_append.1 ht).elim (HP.out t) (fun h => by rw [List.mem_singleton.1 h]; exact ⟨by simp only; omega, by simp only; omega⟩), h4'⟩
    case measure => simp [intOf]; omega
end Go.Proofs.YtphkdagapoonjaaGreatDoor.Lx
