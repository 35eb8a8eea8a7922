/- The document's Parse. (Stage 11; written by tools/r11/xh.py.) -/
import Derived.Test.YtpkmpebhlolhaaaDoorXG
import Derived.Laws.Rows
import Derived.Laws.Tables
import Derived.Laws.ResultCell
namespace Go.Proofs.YtpkmpebhlolhaaaDoor.X
open Go.RowKit
open Go.Proofs.YtpkmpebhlolhaaaDoor.F (hx hx_bd vl bn bn_length bn_append bn_inj bn_get byte_bd hid bn_extract isEmpty_false isEmpty_true str_eq same_eq)
set_option linter.unusedVariables false

/-! ### Plain: looking for two colons -/
theorem cc_step {l : List Int} {i : Nat} (h : i + 1 < l.length) : cc (l.take (i + 2)) = cc (l.take (i + 1)) + (if l[i]?.getD 0 = 58 ∧ l[i + 1]?.getD 0 = 58 then 1 else 0) := by
  have e : l.take (i + 2) = l.take (i + 1) ++ [l[i + 1]?.getD 0] := take_one l (i + 1) h
  rw [e, cc_app]
  have e1 : cc [l[i + 1]?.getD 0] = 0 := rfl
  have e2 : (l.take (i + 1)).getLast? = some (l[i]?.getD 0) := by
    rw [List.getLast?_take, if_neg (by omega), List.getElem?_eq_getElem (by omega)]
    simp
    rw [List.getElem?_eq_getElem (by omega)]; rfl
  rw [e1, e2]
  simp
theorem cc_take_le (l : List Int) (k : Nat) : cc (l.take k) ≤ cc l := by
  have h := cc_app (l.take k) (l.drop k)
  rw [List.take_append_drop] at h
  omega
theorem cp_here {l : List Int} {p : Nat} (hp : p + 1 < l.length) (h1 : l[p]?.getD 0 = 58) (h2 : l[p + 1]?.getD 0 = 58) (hc : cc (l.take (p + 1)) = 0) : cp l = p := by
  have e : l = l.take p ++ 58 :: 58 :: l.drop (p + 2) := by
    have a := List.take_append_drop p l
    have b : l.drop p = 58 :: 58 :: l.drop (p + 2) := by
      rw [List.drop_eq_getElem_cons (by omega), List.drop_eq_getElem_cons (by omega)]
      rw [List.getElem?_eq_getElem (by omega)] at h1 h2
      simp at h1 h2
      rw [h1, h2]
    rw [b] at a
    exact a.symm
  have h3 : l.take (p + 1) = l.take p ++ [58] := by rw [take_one l p (by omega), h1]
  rw [h3] at hc
  have := cp_at (l.take p) (l.drop (p + 2)) hc
  rw [← e, List.length_take] at this
  omega
/-- Where the look for two colons stands. -/
def CJ (l : List Int) (i : Nat) (cut : Int) : Prop := (cut = -1 ∧ cc (l.take (i + 1)) = 0) ∨ (∃ p : Nat, cut = (p : Int) ∧ p + 1 < l.length ∧ cp l = p ∧ cc (l.take (i + 1)) = 1)
theorem CJ.start (l : List Int) : CJ l 0 (-1) := .inl ⟨rfl, by
  match l with
  | [] => rfl
  | [a] => rfl
  | a :: b :: t => rfl⟩
theorem CJ.no {l : List Int} {i : Nat} {cut : Int} (hi : i + 1 < l.length) (h : ¬ (l[i]?.getD 0 = 58 ∧ l[i + 1]?.getD 0 = 58)) (J : CJ l i cut) : CJ l (i + 1) cut := by
  have e := cc_step hi
  rw [if_neg h, Nat.add_zero] at e
  rcases J with ⟨h1, h2⟩ | ⟨p, h1, h2, h3, h4⟩
  · exact .inl ⟨h1, e.trans h2⟩
  · exact .inr ⟨p, h1, h2, h3, e.trans h4⟩
theorem CJ.yes {l : List Int} {i : Nat} (hi : i + 1 < l.length) (h : l[i]?.getD 0 = 58 ∧ l[i + 1]?.getD 0 = 58) (J : CJ l i (-1)) : CJ l (i + 1) (i : Int) := by
  have e := cc_step hi
  rw [if_pos h] at e
  rcases J with ⟨_, h2⟩ | ⟨p, h1, _⟩
  · exact .inr ⟨i, rfl, hi, cp_here hi h.1 h.2 h2, by rw [e, h2]⟩
  · omega
theorem CJ.two {l : List Int} {i p : Nat} (hi : i + 1 < l.length) (h : l[i]?.getD 0 = 58 ∧ l[i + 1]?.getD 0 = 58) (J : CJ l i (p : Int)) : prs l = none := by
  have e := cc_step hi
  rw [if_pos h] at e
  have hle := cc_take_le l (i + 2)
  rcases J with ⟨h1, _⟩ | ⟨p, _, _, _, h4⟩
  · omega
  · unfold prs
    rw [if_neg (by omega), if_neg (by omega)]
theorem CJ.all {l : List Int} {i : Nat} {cut : Int} (hi : l.length ≤ i + 1) (J : CJ l i cut) : (cut = -1 ∧ prs l = full (pieces true l)) ∨ (∃ p : Nat, cut = (p : Int) ∧ p + 1 < l.length ∧ prs l = both (pieces false (l.take p)) (pieces true (l.drop (p + 2)))) := by
  unfold CJ at J
  rw [List.take_of_length_le hi] at J
  rcases J with ⟨h1, h2⟩ | ⟨p, h1, h2, h3, h4⟩
  · left
    refine ⟨h1, ?_⟩
    unfold prs; rw [if_pos h2]
  · right
    refine ⟨p, h1, h2, ?_⟩
    unfold prs; rw [if_neg (by omega), if_pos h4, h3]
/-! ### Memory -/
def z8 : List Nat := [0, 0, 0, 0, 0, 0, 0, 0]
theorem u16s_len (L : List Nat) : (u16s L).length = L.length := by unfold u16s; simp
theorem arr_set (X : List Nat) (i v : Nat) : (u16s X).toArray.setIfInBounds i (.int .u16 (v : Nat)) = (u16s (X.set i v)).toArray := by
  unfold u16s
  rw [List.map_set]; simp
theorem cell_row {W : World} {g : Nat} {t : TypeId} {X : List Nat} (h : W.heap[g]? = some (.cells (u16s X).toArray t (0, 0))) {j : Nat} (hj : j < X.length) : W.cell? ⟨g, j, none⟩ = some (.int .u16 ((X[j]?.getD 0 : Nat) : Int)) := by
  simp only [World.cell?, h]
  unfold u16s
  simp [hj]
theorem one16 (X : List Nat) : (u16s X).toArray.all (·.oneCell') = true := by
  simp [u16s, Value.oneCell']
theorem info8 : (Tryd.prog.info? 23).map (·.size) = some 8 := by kernel_rfl
theorem info8X {X : List Nat} (h : X.length = 8) : (Tryd.prog.info? 23).map (·.size) = some (u16s X).toArray.size := by
  rw [info8]; simp [u16s_len, h]
theorem size8 {X : List Nat} (h : X.length = 8) : (u16s X).toArray.size = 8 := by simp [u16s_len, h]
theorem set_row {w : World} {g : Nat} {cs old : Array Value} {t : TypeId} (h : w.heap[g]? = some (.cells old t (0, 0))) : (w.setRow g cs).heap[g]? = some (.cells cs t (0, 0)) := setRow_heap w g old cs t _ h
theorem results_row_tmp {fn : Func} {p u : Tmp} {ty : TypeId} (h : fn.results = #[.cell p ty, .tmp u]) (tmps : Array Value) (w : World) (g : Nat) (t : TypeId) (cs : Array Value) (fr : Nat × Nat) (n : Nat) (e : TypeId)
    (hp : tmps.getD p undef = .pointer (some ⟨g, 0, none⟩)) (hg : w.heap[g]? = some (.cells cs t fr))
    (hu : Tryd.prog.underlying ty = some (.array n e)) (hi : (Tryd.prog.info? ty).map (·.size) = some cs.size) :
    (results fn tmps).run Tryd.prog w = .ok (.tuple #[.agg cs, tmps.getD u undef]) w := by
  rw [results_cell_tmp h]
  have hp' : tmps[p]?.getD undef = .pointer (some ⟨g, 0, none⟩) := by simpa using hp
  simp [hp', asAddr, run_loadVar_row w g t ty cs fr (.array n e) hg hu rfl hi]
theorem cell_other (w : World) (g i b j : Nat) (v : Value) (h : b ≠ g) : (w.setCell ⟨g, i, none⟩ v).cell? ⟨b, j, none⟩ = w.cell? ⟨b, j, none⟩ := by
  have e := heap_setCell_other w ⟨g, i, none⟩ b v h
  simp only [World.cell?, e]
theorem z8_at (j : Nat) : z8[j]?.getD 0 = 0 := by
  match j with
  | 0 | 1 | 2 | 3 | 4 | 5 | 6 | 7 => rfl
  | j + 8 => rfl
theorem set_upto {X L : List Nat} {i v : Nat} (hl : X.length = 8) (hi : i < 8) (hv : L[i]?.getD 0 = v) (h : ∀ j, X[j]?.getD 0 = if j < i then L[j]?.getD 0 else 0) (j : Nat) : (X.set i v)[j]?.getD 0 = if j < i + 1 then L[j]?.getD 0 else 0 := by
  by_cases e : j = i
  · rw [e, List.getElem?_set_self (by omega), if_pos (by omega), hv]; rfl
  · rw [List.getElem?_set_ne (by omega), h j]
    by_cases e2 : j < i
    · rw [if_pos e2, if_pos (by omega)]
    · rw [if_neg e2, if_neg (by omega)]
theorem ext8 {X L : List Nat} (hx : X.length = 8) (hl : L.length = 8) (h : ∀ j, j < 8 → X[j]?.getD 0 = L[j]?.getD 0) : X = L := by
  apply List.ext_getElem (by omega)
  intro j h1 h2
  have := h j (by omega)
  rw [List.getElem?_eq_getElem h1, List.getElem?_eq_getElem h2] at this
  exact this
theorem lst_len {last : Bool} {p : List Int} {L : List Nat} (h : lst last p = some L) : L.length ≤ 2 := by
  have two : ∀ l, dt p = some l → l.length = 2 := fun l hl => by
    unfold dt at hl
    generalize (spB 46 p).map dn = m at hl
    match m, hl with
    | [some a, some b, some c, some d], hl => simp [four2] at hl; rw [← hl]; rfl
  unfold lst at h
  cases last with
  | true =>
    rw [if_pos rfl] at h
    cases hd : dt p with
    | some l => rw [hd] at h; simp at h; rw [← h, two l hd]; exact Nat.le_refl _
    | none =>
      rw [hd] at h
      cases hp : pc p with
      | none => rw [hp] at h; simp at h
      | some v => rw [hp] at h; simp at h; rw [← h]; simp
  | false =>
    rw [if_neg (by simp)] at h
    cases hp : pc p with
    | none => rw [hp] at h; simp at h
    | some v => rw [hp] at h; simp at h; rw [← h]; simp
theorem pcs_len {last : Bool} : ∀ (ps : List (List Int)) (L : List Nat), pcs last ps = some L → L.length ≤ ps.length + 1
  | [], L, h => by simp [pcs] at h; simp [h]
  | [p], L, h => by have := lst_len (last := last) h; simpa using this
  | p :: q :: r, L, h => by
    have h' : put (pc p) (pcs last (q :: r)) = some L := h
    cases hp : pc p with
    | none => rw [hp] at h'; simp [put] at h'
    | some v =>
      cases hq : pcs last (q :: r) with
      | none => rw [hp, hq] at h'; simp [put] at h'
      | some M =>
        rw [hp, hq] at h'
        simp [put] at h'
        have := pcs_len (q :: r) M hq
        rw [← h']
        simp at this ⊢
        omega
theorem pieces_len {last : Bool} {l : List Int} {L : List Nat} (h : pieces last l = some L) : L.length ≤ l.length + 2 := by
  unfold pieces at h
  split at h
  · cases h; exact Nat.zero_le _
  · have h1 := pcs_len _ L h
    have h2 := sp_cnt 58 l
    omega
/-- Where a row of pieces is read from: not the block A. -/
def Src (W : World) (a : Option Addr) (L : List Nat) (A : Nat) : Prop := 0 < L.length → ∃ b, b ≠ A ∧ a = some ⟨b, 0, none⟩ ∧ ∀ j, j < L.length → W.cell? ⟨b, j, none⟩ = some (.int .u16 ((L[j]?.getD 0 : Nat) : Int))
theorem Src.below {W W' : World} {a : Option Addr} {L : List Nat} {A : Nat} (h : Src W a L A) (hb : Below W.heap.size W W') : Src W' a L A := fun hp => by
  obtain ⟨b, h1, h2, h3⟩ := h hp
  exact ⟨b, h1, h2, fun j hj => (hb.cell (p := ⟨b, j, none⟩) (lt_cell (h3 j hj))).trans (h3 j hj)⟩
theorem Src.set {W : World} {a : Option Addr} {L : List Nat} {A : Nat} (h : Src W a L A) (i : Nat) (v : Value) : Src (W.setCell ⟨A, i, none⟩ v) a L A := fun hp => by
  obtain ⟨b, h1, h2, h3⟩ := h hp
  exact ⟨b, h1, h2, fun j hj => (cell_other W A i b j v h1).trans (h3 j hj)⟩
theorem three_at {F B : List Nat} {f q j : Nat} (hf : F.length = f) (hq : B.length = q) (h7 : f + q ≤ 7) (hj : j < 8) : (F ++ List.replicate (8 - q - f) 0 ++ B)[j]?.getD 0 = if j < f then F[j]?.getD 0 else if 8 - q ≤ j ∧ j < 8 - q + q then B[j - (8 - q)]?.getD 0 else 0 := by
  by_cases e : j < f
  · rw [if_pos e, List.append_assoc, List.getElem?_append_left (by omega)]
  · rw [if_neg e]
    by_cases e2 : 8 - q ≤ j
    · rw [if_pos (by omega), List.getElem?_append_right (by simp; omega)]
      congr 2
      simp; omega
    · rw [if_neg (by omega), List.append_assoc, List.getElem?_append_right (by omega), List.getElem?_append_left (by simp; omega), List.getElem?_replicate, if_pos (by omega)]; rfl
/-- What Parse answers. -/
def ParR (l : List Int) (w : World) (e : Ending) (W' : World) : Prop := e = .returned (.tuple #[.agg (u16s ((prs l).getD z8)).toArray, .bool (prs l).isSome]) ∧ Below w.heap.size w W'
theorem below_row {B : Nat} {w w' : World} (h : Below B w w') {g : Nat} (hg : B ≤ g) (cs : Array Value) : Below B w (w'.setRow g cs) := by
  refine ⟨h.os, h.tape, h.output, ?_, fun k hk => ?_⟩
  · show w.heap.size ≤ (w'.setRow g cs).heap.size
    have e : (w'.setRow g cs).heap.size = w'.heap.size := by unfold World.setRow; simp
    rw [e]; exact h.size
  · have e : (w'.setRow g cs).heap[k]? = w'.heap[k]? := by
      unfold World.setRow
      simp only [Array.getElem?_modify]
      rw [if_neg (by omega)]
    rw [e]; exact h.block k hk
set_option maxRecDepth 100000 in
set_option maxHeartbeats 8000000 in
theorem rparse_any (s : ByteArray) (w : World) (hs : s.size ≤ 100000) :
    Calls Tryd.prog 9 #[.string s] w fun e W' => ParR (bn s) w e W' := by
  have HNO : Hid (∀ W, prs (bn s) = none → Below w.heap.size w W → ParR (bn s) w (.returned (.tuple #[.agg (u16s z8).toArray, .bool false])) W) := fun W h hB => by unfold ParR; rw [h]; exact ⟨rfl, hB⟩
  have HYES : Hid (∀ W X, prs (bn s) = some X → Below w.heap.size w W → ParR (bn s) w (.returned (.tuple #[.agg (u16s X).toArray, .bool true])) W) := fun W X h hB => by unfold ParR; rw [h]; exact ⟨rfl, hB⟩
  have HLN := hid (bn_length s)
  have HGT := hid (bn_get s)
  have HSTA := hid (CJ.start (bn s))
  have HJN : Hid (∀ i cut, i + 1 < s.size → ¬ ((bn s)[i]?.getD 0 = 58 ∧ (bn s)[i + 1]?.getD 0 = 58) → CJ (bn s) i cut → CJ (bn s) (i + 1) cut) := fun i cut h => CJ.no (by rw [bn_length]; exact h)
  have HJY : Hid (∀ i, i + 1 < s.size → ((bn s)[i]?.getD 0 = 58 ∧ (bn s)[i + 1]?.getD 0 = 58) → CJ (bn s) i (-1) → CJ (bn s) (i + 1) (i : Int)) := fun i h => CJ.yes (by rw [bn_length]; exact h)
  have HJT : Hid (∀ i (p : Nat), i + 1 < s.size → ((bn s)[i]?.getD 0 = 58 ∧ (bn s)[i + 1]?.getD 0 = 58) → CJ (bn s) i (p : Int) → prs (bn s) = none) := fun i p h => CJ.two (by rw [bn_length]; exact h)
  have HJA : Hid (∀ i cut, s.size ≤ i + 1 → CJ (bn s) i cut → (cut = -1 ∧ prs (bn s) = full (pieces true (bn s))) ∨ (∃ p : Nat, cut = (p : Int) ∧ p + 1 < s.size ∧ prs (bn s) = both (pieces false ((bn s).take p)) (pieces true ((bn s).drop (p + 2))))) := fun i cut h J => by
    have := CJ.all (by rw [bn_length]; exact h) J
    rwa [bn_length] at this
  have HXL : Hid (z8.length = 8) := rfl
  have HB0 : Hid (Below w.heap.size w ((w.alloc (.cells (u16s z8).toArray 23)).alloc (.cells (u16s z8).toArray 23))) := ((Below.refl _ w).alloc (Nat.le_refl _) _).alloc (by simp) _
  have HR0 : Hid (((w.alloc (.cells (u16s z8).toArray 23)).alloc (.cells (u16s z8).toArray 23)).heap[w.heap.size]? = some (.cells (u16s z8).toArray 23 (0, 0))) := by
    show _ = _
    exact (heap_alloc_old _ _ (by simp)).trans (heap_alloc_new _ _)
  have HA0 : Hid (((w.alloc (.cells (u16s z8).toArray 23)).alloc (.cells (u16s z8).toArray 23)).heap[w.heap.size + 1]? = some (.cells (u16s z8).toArray 23 (0, 0))) := by
    show _ = _
    rw [heap_alloc2_new]
  have HZ0 : Hid (((w.alloc (.cells (u16s z8).toArray 23)).alloc (.cells (u16s z8).toArray 23)).heap.size = w.heap.size + 2) := by show _ = _; simp
  have HWE : Hid ((w.alloc (.cells (u16s z8).toArray 23)).alloc (.cells (u16s z8).toArray 23) = (w.alloc (.cells #[.int .u16 0, .int .u16 0, .int .u16 0, .int .u16 0, .int .u16 0, .int .u16 0, .int .u16 0, .int .u16 0] 23)).alloc (.cells #[.int .u16 0, .int .u16 0, .int .u16 0, .int .u16 0, .int .u16 0, .int .u16 0, .int .u16 0, .int .u16 0] 23)) := rfl
  go_enter Tryd.func9, Tryd.ntmps9
  go_wp2_with fail
  rw [← HWE.out]
  obtain ⟨w1, hw1⟩ : ∃ w1, (w.alloc (.cells (u16s z8).toArray 23)).alloc (.cells (u16s z8).toArray 23) = w1 := ⟨_, rfl⟩
  rw [hw1] at HB0 HR0 HA0 HZ0 ⊢
  clear hw1 HWE
  go_loop [5, 6] (fun v5 v6 => ∃ (i : Nat) (cut : Int), i ≤ s.size ∧ -1 ≤ cut ∧ cut < (s.size : Int) ∧ v5 = .int .i64 cut ∧ v6 = .int .i64 i ∧ Hid (CJ (bn s) i cut)) (fun _ v6 => s.size - (intOf v6).toNat)
  case atStart => exact ⟨0, -1, Nat.zero_le _, by omega, by omega, rfl, rfl, HSTA⟩
  case round =>
    obtain ⟨i, cut, hi, hc0, hc1, rfl, rfl, HJ⟩ := hrel
    by_cases hlt : i + 1 < s.size
    · have hltz : (i : Int) + 1 < (s.size : Int) := by omega
      have hg1 := (HGT.out i (by omega)).symm
      have hg2 := (HGT.out (i + 1) hlt).symm
      have HN := hid (fun h => HJN.out i cut hlt h HJ.out)
      have HY := hid (fun (hh : cut = -1) h => HJY.out i hlt h (by rw [← hh]; exact HJ.out))
      have HT := hid (fun (p : Nat) (hh : cut = (p : Int)) h => HJT.out i p hlt h (by rw [← hh]; exact HJ.out))
      obtain ⟨x, hx1⟩ : ∃ x, (bn s)[i]?.getD 0 = x := ⟨_, rfl⟩
      obtain ⟨y, hy1⟩ : ∃ y, (bn s)[i + 1]?.getD 0 = y := ⟨_, rfl⟩
      rw [hx1] at hg1 HN HY HT
      rw [hy1] at hg2 HN HY HT
      clear hx1 hy1 HJ HJN HJY HJT
      by_cases hx : x = 58
      · have hxb : (x == 58) = true := by simpa using hx
        by_cases hy : y = 58
        · have hyb : (y == 58) = true := by simpa using hy
          by_cases hcut : 0 ≤ cut
          · obtain ⟨p, hp⟩ : ∃ p : Nat, cut = (p : Int) := ⟨cut.toNat, by omega⟩
            have HNN := hid (HT.out p hp ⟨hx, hy⟩)
            have HAb := HA0
            have HRb := HR0
            clear HN HY HT hx hy hp
            go_wp2_with (first
              | (refine wpList_load_row rfl 23 (.tmp 4) rfl (w.heap.size + 1) rfl 23 (u16s z8).toArray (0, 0) _ HAb.out Tryd.underlying23 rfl (info8X HXL.out) ?_)
              | (refine wpList_store_row rfl 23 (.tmp 2) (.tmp 36) rfl w.heap.size (u16s z8).toArray rfl rfl 23 (u16s z8).toArray HRb.out (info8X HXL.out) ((size8 rfl).trans (size8 HXL.out).symm) (one16 z8) ?_))
            exact bodyPost_ret (results_row_tmp Tryd.results9 _ _ w.heap.size 23 (u16s z8).toArray (0, 0) _ _ rfl (set_row HRb.out) Tryd.underlying23 (info8X HXL.out)) rfl (HNO.out _ HNN.out (below_row HB0.out (Nat.le_refl _) _))
          · have hcm : cut = -1 := by omega
            have HJ2 := hid (HY.out hcm ⟨hx, hy⟩)
            clear HN HY HT hx hy
            go_wp2
            exact ⟨⟨i + 1, (i : Int), by omega, by omega, by omega, rfl, by go_num, HJ2⟩, by simp [intOf]; omega⟩
        · have hyb : (y == 58) = false := by simpa using hy
          have HJ2 := hid (HN.out (fun h => hy h.2))
          clear HN HY HT hx hy
          go_wp2
          exact ⟨⟨i + 1, cut, by omega, hc0, hc1, rfl, by go_num, HJ2⟩, by simp [intOf]; omega⟩
      · have hxb : (x == 58) = false := by simpa using hx
        have HJ2 := hid (HN.out (fun h => hx h.1))
        clear HN HY HT hx
        go_wp2
        exact ⟨⟨i + 1, cut, by omega, hc0, hc1, rfl, by go_num, HJ2⟩, by simp [intOf]; omega⟩
    · have hltz : ¬ (i : Int) + 1 < (s.size : Int) := by omega
      have HALL := hid (HJA.out i cut (by omega) HJ.out)
      clear HJ HJN HJY HJT HJA HGT HSTA
      rcases HALL.out with ⟨hcm, hpr⟩ | ⟨p, hcp, hp1, hpr⟩
      · subst hcm
        have HPR := hid hpr
        have HPI := hid (rpieces_any s true w1 hs)
        clear HALL hpr
        go_wp2_with fail
        refine HPI.out.mono ?_
        rintro e w2 ⟨hd, B2⟩
        have HBw := hid (HB0.out.trans (B2.mono HB0.out.size))
        have HRb : Hid (w2.heap[w.heap.size]? = some (.cells (u16s z8).toArray 23 (0, 0))) := (B2.block _ (by rw [HZ0.out]; omega)).trans HR0.out
        have HAb : Hid (w2.heap[w.heap.size + 1]? = some (.cells (u16s z8).toArray 23 (0, 0))) := (B2.block _ (by rw [HZ0.out]; omega)).trans HA0.out
        clear B2 HPI HA0 HR0 HB0
        rcases hd with ⟨hn, rfl⟩ | ⟨L, a, c, hsm, rfl, hcl⟩
        · have HNN : Hid (prs (bn s) = none) := HPR.out.trans (by rw [hn]; rfl)
          clear hn
          go_wp2_with (first
            | (refine wpList_load_row rfl 23 (.tmp 4) rfl (w.heap.size + 1) rfl 23 (u16s z8).toArray (0, 0) _ HAb.out Tryd.underlying23 rfl (info8X HXL.out) ?_)
            | (refine wpList_store_row rfl 23 (.tmp 2) (.tmp 52) rfl w.heap.size (u16s z8).toArray rfl rfl 23 (u16s z8).toArray HRb.out (info8X HXL.out) ((size8 rfl).trans (size8 HXL.out).symm) (one16 z8) ?_))
          exact bodyPost_ret (results_row_tmp Tryd.results9 _ _ w.heap.size 23 (u16s z8).toArray (0, 0) _ _ rfl (set_row HRb.out) Tryd.underlying23 (info8X HXL.out)) rfl (HNO.out _ HNN.out (below_row HBw.out (Nat.le_refl _) _))
        · by_cases hl8 : L.length = 8
          · have HYY : Hid (prs (bn s) = some L) := HPR.out.trans (by rw [hsm]; unfold full; simp [hl8])
            obtain ⟨b, hb, rfl, hcb⟩ := hcl (by omega)
            have hbA : b ≠ w.heap.size + 1 := by have := HZ0.out; omega
            have hbR : b ≠ w.heap.size := by have := HZ0.out; omega
            rw [hl8] at hcb
            rw [hl8]
            have HCL := hid hcb
            have HL8 := hid hl8
            clear hsm hcl hcb hl8 HPR
            go_wp2_with fail
            go_loopw [9] (fun v9 wr => ∃ (i : Nat) (X : List Nat), i ≤ 8 ∧ v9 = .int .i64 i ∧ Hid (X.length = 8) ∧ Hid (∀ j, X[j]?.getD 0 = if j < i then L[j]?.getD 0 else 0) ∧ Hid (wr.heap[w.heap.size + 1]? = some (.cells (u16s X).toArray 23 (0, 0))) ∧ Hid (wr.heap[w.heap.size]? = some (.cells (u16s z8).toArray 23 (0, 0))) ∧ Hid (∀ j, j < 8 → wr.cell? ⟨b, j, none⟩ = some (.int .u16 ((L[j]?.getD 0 : Nat) : Int))) ∧ Hid (Below w.heap.size w wr)) (fun v9 _ => 8 - (intOf v9).toNat)
            case atStart => exact ⟨0, z8, by omega, rfl, rfl, (fun j => by rw [if_neg (by omega)]; exact z8_at j), HAb, HRb, HCL, HBw⟩
            case round =>
              obtain ⟨i, X, hi, rfl, HXL, HXF, HAb, HRb, HCL, HBw⟩ := hrel
              by_cases hlt : i < 8
              · have hsrc := HCL.out i hlt
                have hdst := cell_row HAb.out (j := i) (by rw [HXL.out]; exact hlt)
                have hfz := frozen_of_row wr (w.heap.size + 1) i _ _ HAb.out
                have hltz : (i : Int) < 8 := by omega
                obtain ⟨v, hv⟩ : ∃ v, L[i]?.getD 0 = v := ⟨_, rfl⟩
                rw [hv] at hsrc
                have HA2 : Hid ((wr.setCell ⟨w.heap.size + 1, i, none⟩ (.int .u16 (v : Nat))).heap[w.heap.size + 1]? = some (.cells (u16s (X.set i v)).toArray 23 (0, 0))) := by
                  show _ = _
                  rw [heap_setCell_same wr _ i _ _ _ HAb.out, arr_set]
                have HR2 : Hid ((wr.setCell ⟨w.heap.size + 1, i, none⟩ (.int .u16 (v : Nat))).heap[w.heap.size]? = some (.cells (u16s z8).toArray 23 (0, 0))) := (heap_setCell_other wr _ _ _ (by simp)).trans HRb.out
                have HC2 : Hid (∀ j, j < 8 → (wr.setCell ⟨w.heap.size + 1, i, none⟩ (.int .u16 (v : Nat))).cell? ⟨b, j, none⟩ = some (.int .u16 ((L[j]?.getD 0 : Nat) : Int))) := fun j hj => (cell_other wr _ i b j _ hbA).trans (HCL.out j hj)
                have HB2 := hid (HBw.out.setCell (p := ⟨w.heap.size + 1, i, none⟩) (Nat.le_succ _) (.int .u16 (v : Nat)))
                have HX2 : Hid (∀ j, (X.set i v)[j]?.getD 0 = if j < i + 1 then L[j]?.getD 0 else 0) := fun j => set_upto HXL.out hlt hv HXF.out j
                have HXL2 : Hid ((X.set i v).length = 8) := by show _ = _; rw [List.length_set]; exact HXL.out
                clear hv
                go_wp2_with fail
                go_roundw
                case rel => exact ⟨i + 1, X.set i v, by omega, by go_num, HXL2, HX2, HA2, HR2, HC2, HB2⟩
                case measure => simp [intOf]; omega
              · have hi8 : i = 8 := by omega
                have HXX : Hid (X = L) := ext8 HXL.out HL8.out (fun j hj => by rw [HXF.out j, if_pos (by omega)])
                have hltz : ¬ (i : Int) < 8 := by omega
                have HY2 : Hid (prs (bn s) = some X) := by show _ = _; rw [HXX.out]; exact HYY.out
                clear HXF HXX HCL HYY
                go_wp2_with (first
                  | (refine wpList_load_row rfl 23 (.tmp 4) rfl (w.heap.size + 1) rfl 23 (u16s X).toArray (0, 0) _ HAb.out Tryd.underlying23 rfl (info8X HXL.out) ?_)
                  | (refine wpList_store_row rfl 23 (.tmp 2) (.tmp 63) rfl w.heap.size (u16s X).toArray rfl rfl 23 (u16s z8).toArray HRb.out (info8X HXL.out) ((size8 rfl).trans (size8 HXL.out).symm) (one16 X) ?_))
                exact bodyPost_ret (results_row_tmp Tryd.results9 _ _ w.heap.size 23 (u16s X).toArray (0, 0) _ _ rfl (set_row HRb.out) Tryd.underlying23 (info8X HXL.out)) rfl (HYES.out _ _ HY2.out (below_row HBw.out (Nat.le_refl _) _))
          · have HNN : Hid (prs (bn s) = none) := HPR.out.trans (by rw [hsm]; unfold full; simp [hl8])
            have hl8b : ((L.length : Int) != 8) = true := by simp; omega
            clear hsm hcl hl8
            go_wp2_with (first
              | (refine wpList_load_row rfl 23 (.tmp 4) rfl (w.heap.size + 1) rfl 23 (u16s z8).toArray (0, 0) _ HAb.out Tryd.underlying23 rfl (info8X HXL.out) ?_)
              | (refine wpList_store_row rfl 23 (.tmp 2) (.tmp 52) rfl w.heap.size (u16s z8).toArray rfl rfl 23 (u16s z8).toArray HRb.out (info8X HXL.out) ((size8 rfl).trans (size8 HXL.out).symm) (one16 z8) ?_))
            exact bodyPost_ret (results_row_tmp Tryd.results9 _ _ w.heap.size 23 (u16s z8).toArray (0, 0) _ _ rfl (set_row HRb.out) Tryd.underlying23 (info8X HXL.out)) rfl (HNO.out _ HNN.out (below_row HBw.out (Nat.le_refl _) _))
      · subst hcp
        have HPR := hid hpr
        have HP1 := hid (rpieces_any (s.extract 0 p) false w1 (by simp; omega))
        have HBE1 : Hid (bn (s.extract 0 p) = (bn s).take p) := by show _ = _; rw [bn_sub s 0 p (Nat.zero_le _) (by omega)]; simp
        have HBE2 : Hid (bn (s.extract (p + 2) s.size) = (bn s).drop (p + 2)) := bn_extract s (p + 2)
        rw [HBE1.out] at HP1
        have hpz : ((p : Int) < 0) = False := by simp
        have hp2 : (p : Int) + 2 ≤ (s.size : Int) := by omega
        clear HALL hpr
        go_wp2_with fail
        refine HP1.out.mono ?_
        rintro e w2 ⟨hd1, B2⟩
        have HP2 := hid (rpieces_any (s.extract (p + 2) s.size) true w2 (by simp; omega))
        rw [HBE2.out] at HP2
        have HB2 := hid (HB0.out.trans (B2.mono HB0.out.size))
        have z2 : w.heap.size + 2 ≤ w2.heap.size := by rw [← HZ0.out]; exact B2.size
        have HRb2 : Hid (w2.heap[w.heap.size]? = some (.cells (u16s z8).toArray 23 (0, 0))) := (B2.block _ (by rw [HZ0.out]; omega)).trans HR0.out
        have HAb2 : Hid (w2.heap[w.heap.size + 1]? = some (.cells (u16s z8).toArray 23 (0, 0))) := (B2.block _ (by rw [HZ0.out]; omega)).trans HA0.out
        clear B2 HP1 HA0 HR0 HB0
        rcases hd1 with ⟨hn1, rfl⟩ | ⟨F, aF, cF, hsF, rfl, hcF⟩
        · have HNN : Hid (prs (bn s) = none) := HPR.out.trans (by rw [hn1]; rfl)
          clear hn1 HPR
          go_wp2_with fail
          refine HP2.out.mono ?_
          rintro e w3 ⟨hd2, B3⟩
          have HRb : Hid (w3.heap[w.heap.size]? = some (.cells (u16s z8).toArray 23 (0, 0))) := (B3.block _ (by omega)).trans HRb2.out
          have HAb : Hid (w3.heap[w.heap.size + 1]? = some (.cells (u16s z8).toArray 23 (0, 0))) := (B3.block _ (by omega)).trans HAb2.out
          have HBw := hid (HB2.out.trans (B3.mono HB2.out.size))
          obtain ⟨v2, b2, rfl⟩ : ∃ v2 b2, e = .returned (.tuple #[v2, .bool b2]) := by
            rcases hd2 with ⟨_, rfl⟩ | ⟨_, _, _, _, rfl, _⟩
            · exact ⟨_, _, rfl⟩
            · exact ⟨_, _, rfl⟩
          clear hd2 B3 HP2 HRb2 HAb2 HB2
          go_wp2_with (first
            | (refine wpList_load_row rfl 23 (.tmp 4) rfl (w.heap.size + 1) rfl 23 (u16s z8).toArray (0, 0) _ HAb.out Tryd.underlying23 rfl (info8X HXL.out) ?_)
            | (refine wpList_store_row rfl 23 (.tmp 2) (.tmp 93) rfl w.heap.size (u16s z8).toArray rfl rfl 23 (u16s z8).toArray HRb.out (info8X HXL.out) ((size8 rfl).trans (size8 HXL.out).symm) (one16 z8) ?_))
          exact bodyPost_ret (results_row_tmp Tryd.results9 _ _ w.heap.size 23 (u16s z8).toArray (0, 0) _ _ rfl (set_row HRb.out) Tryd.underlying23 (info8X HXL.out)) rfl (HNO.out _ HNN.out (below_row HBw.out (Nat.le_refl _) _))
        · have HSF2 : Hid (Src w2 aF F (w.heap.size + 1)) := fun h => by
            obtain ⟨b, hb, ha, hc⟩ := hcF h
            exact ⟨b, by have := HZ0.out; omega, ha, hc⟩
          obtain ⟨f, hf⟩ : ∃ f, F.length = f := ⟨_, rfl⟩
          rw [hf]
          have HFL := hid hf
          have hfb : f ≤ 200000 := by
            have h1 := pieces_len hsF
            rw [List.length_take, HLN.out] at h1
            omega
          have HFS := hid hsF
          clear hcF hsF hf
          go_wp2_with fail
          refine HP2.out.mono ?_
          rintro e w3 ⟨hd2, B3⟩
          have HRb : Hid (w3.heap[w.heap.size]? = some (.cells (u16s z8).toArray 23 (0, 0))) := (B3.block _ (by omega)).trans HRb2.out
          have HAb : Hid (w3.heap[w.heap.size + 1]? = some (.cells (u16s z8).toArray 23 (0, 0))) := (B3.block _ (by omega)).trans HAb2.out
          have HBw := hid (HB2.out.trans (B3.mono HB2.out.size))
          have HSF := hid (HSF2.out.below B3)
          clear B3 HP2 HRb2 HAb2 HB2 HSF2
          rcases hd2 with ⟨hn2, rfl⟩ | ⟨B, aB, cB, hsB, rfl, hcB⟩
          · have HNN : Hid (prs (bn s) = none) := HPR.out.trans (by rw [hn2, HFS.out]; rfl)
            clear hn2 HPR
            go_wp2_with (first
              | (refine wpList_load_row rfl 23 (.tmp 4) rfl (w.heap.size + 1) rfl 23 (u16s z8).toArray (0, 0) _ HAb.out Tryd.underlying23 rfl (info8X HXL.out) ?_)
              | (refine wpList_store_row rfl 23 (.tmp 2) (.tmp 93) rfl w.heap.size (u16s z8).toArray rfl rfl 23 (u16s z8).toArray HRb.out (info8X HXL.out) ((size8 rfl).trans (size8 HXL.out).symm) (one16 z8) ?_))
            exact bodyPost_ret (results_row_tmp Tryd.results9 _ _ w.heap.size 23 (u16s z8).toArray (0, 0) _ _ rfl (set_row HRb.out) Tryd.underlying23 (info8X HXL.out)) rfl (HNO.out _ HNN.out (below_row HBw.out (Nat.le_refl _) _))
          · have HSB : Hid (Src w3 aB B (w.heap.size + 1)) := fun h => by
              obtain ⟨b, hb, ha, hc⟩ := hcB h
              exact ⟨b, by omega, ha, hc⟩
            obtain ⟨q, hq⟩ : ∃ q, B.length = q := ⟨_, rfl⟩
            rw [hq]
            have HBL := hid hq
            have hqb : q ≤ 200000 := by
              have h1 := pieces_len hsB
              rw [List.length_drop, HLN.out] at h1
              omega
            have HPR2 : Hid (prs (bn s) = if f + q ≤ 7 then some (F ++ List.replicate (8 - q - f) 0 ++ B) else none) := by
              show _ = _
              rw [HPR.out, HFS.out, hsB, ← HFL.out, ← hq]; rfl
            clear hcB hsB hq HPR HFS
            by_cases h7 : f + q ≤ 7
            · have HYY := hid (HPR2.out.trans (if_pos h7))
              have h7z : ¬ (7 : Int) < (f : Int) + (q : Int) := by omega
              clear HPR2
              go_wp2_with fail
              go_loopw [14] (fun v14 wr => ∃ (i : Nat) (X : List Nat), i ≤ f ∧ v14 = .int .i64 i ∧ Hid (X.length = 8) ∧ Hid (∀ j, X[j]?.getD 0 = if j < i then F[j]?.getD 0 else 0) ∧ Hid (wr.heap[w.heap.size + 1]? = some (.cells (u16s X).toArray 23 (0, 0))) ∧ Hid (wr.heap[w.heap.size]? = some (.cells (u16s z8).toArray 23 (0, 0))) ∧ Hid (Src wr aF F (w.heap.size + 1)) ∧ Hid (Src wr aB B (w.heap.size + 1)) ∧ Hid (Below w.heap.size w wr)) (fun v14 _ => f - (intOf v14).toNat)
              case atStart => exact ⟨0, z8, by omega, rfl, rfl, (fun j => by rw [if_neg (by omega)]; exact z8_at j), HAb, HRb, HSF, HSB, HBw⟩
              case round =>
                obtain ⟨i, X, hi, rfl, HXL, HXF, HAb, HRb, HSF, HSB, HBw⟩ := hrel
                by_cases hlt : i < f
                · obtain ⟨b, hbA, haF, hcF⟩ := HSF.out (by rw [HFL.out]; omega)
                  have hsrc := hcF i (by rw [HFL.out]; exact hlt)
                  have hdst := cell_row HAb.out (j := i) (by rw [HXL.out]; omega)
                  have hfz := frozen_of_row wr (w.heap.size + 1) i _ _ HAb.out
                  have hltz : (i : Int) < (f : Int) := by omega
                  have hi8 : (i : Int) < 8 := by omega
                  obtain ⟨v, hv⟩ : ∃ v, F[i]?.getD 0 = v := ⟨_, rfl⟩
                  rw [hv] at hsrc
                  have HA2 : Hid ((wr.setCell ⟨w.heap.size + 1, i, none⟩ (.int .u16 (v : Nat))).heap[w.heap.size + 1]? = some (.cells (u16s (X.set i v)).toArray 23 (0, 0))) := by
                    show _ = _
                    rw [heap_setCell_same wr _ i _ _ _ HAb.out, arr_set]
                  have HR2 : Hid ((wr.setCell ⟨w.heap.size + 1, i, none⟩ (.int .u16 (v : Nat))).heap[w.heap.size]? = some (.cells (u16s z8).toArray 23 (0, 0))) := (heap_setCell_other wr _ _ _ (by simp)).trans HRb.out
                  have HS1 := hid (HSF.out.set i (.int .u16 (v : Nat)))
                  have HS2 := hid (HSB.out.set i (.int .u16 (v : Nat)))
                  have HB3 := hid (HBw.out.setCell (p := ⟨w.heap.size + 1, i, none⟩) (Nat.le_succ _) (.int .u16 (v : Nat)))
                  have HX2 : Hid (∀ j, (X.set i v)[j]?.getD 0 = if j < i + 1 then F[j]?.getD 0 else 0) := fun j => set_upto HXL.out (by omega) hv HXF.out j
                  have HXL2 : Hid ((X.set i v).length = 8) := by show _ = _; rw [List.length_set]; exact HXL.out
                  subst haF
                  clear hv hcF HXL HXF HAb HRb HSF HSB HBw
                  go_wp2_with fail
                  go_roundw
                  case rel => exact ⟨i + 1, X.set i v, by omega, by go_num, HXL2, HX2, HA2, HR2, HS1, HS2, HB3⟩
                  case measure => simp [intOf]; omega
                · have hif : i = f := by omega
                  have HX0 : Hid (∀ j, X[j]?.getD 0 = if j < f then F[j]?.getD 0 else if 8 - q ≤ j ∧ j < 8 - q + 0 then B[j - (8 - q)]?.getD 0 else 0) := fun j => by
                    rw [HXF.out j, hif]
                    by_cases e : j < f
                    · rw [if_pos e, if_pos e]
                    · rw [if_neg e, if_neg e, if_neg (by omega)]
                  have hltz : ¬ (i : Int) < (f : Int) := by omega
                  clear HXF HSF
                  go_wp2_with fail
                  go_loopw [15] (fun v15 wi => ∃ (k : Nat) (Y : List Nat), k ≤ q ∧ v15 = .int .i64 k ∧ Hid (Y.length = 8) ∧ Hid (∀ j, Y[j]?.getD 0 = if j < f then F[j]?.getD 0 else if 8 - q ≤ j ∧ j < 8 - q + k then B[j - (8 - q)]?.getD 0 else 0) ∧ Hid (wi.heap[w.heap.size + 1]? = some (.cells (u16s Y).toArray 23 (0, 0))) ∧ Hid (wi.heap[w.heap.size]? = some (.cells (u16s z8).toArray 23 (0, 0))) ∧ Hid (Src wi aB B (w.heap.size + 1)) ∧ Hid (Below w.heap.size w wi)) (fun v15 _ => q - (intOf v15).toNat)
                  case atStart => exact ⟨0, X, by omega, rfl, HXL, HX0, HAb, HRb, HSB, HBw⟩
                  case round =>
                    obtain ⟨k, Y, hk, rfl, HXL, HXF, HAb, HRb, HSB, HBw⟩ := hrel
                    by_cases hlt2 : k < q
                    · obtain ⟨b, hbA, haB, hcB⟩ := HSB.out (by rw [HBL.out]; omega)
                      have hsrc := hcB k (by rw [HBL.out]; exact hlt2)
                      obtain ⟨u, hu⟩ : ∃ u, 8 - q = u := ⟨_, rfl⟩
                      have hu1 : (8 : Int) - (q : Int) = (u : Int) := by omega
                      have hu2 : u + k < 8 := by omega
                      have hdst := cell_row HAb.out (j := u + k) (by rw [HXL.out]; exact hu2)
                      have hfz := frozen_of_row wr (w.heap.size + 1) (u + k) _ _ HAb.out
                      have hltz2 : (k : Int) < (q : Int) := by omega
                      have hu2z : (u : Int) + (k : Int) < 8 := by omega
                      obtain ⟨v, hv⟩ : ∃ v, B[k]?.getD 0 = v := ⟨_, rfl⟩
                      rw [hv] at hsrc
                      have HA2 : Hid ((wr.setCell ⟨w.heap.size + 1, u + k, none⟩ (.int .u16 (v : Nat))).heap[w.heap.size + 1]? = some (.cells (u16s (Y.set (u + k) v)).toArray 23 (0, 0))) := by
                        show _ = _
                        rw [heap_setCell_same wr _ (u + k) _ _ _ HAb.out, arr_set]
                      have HR2 : Hid ((wr.setCell ⟨w.heap.size + 1, u + k, none⟩ (.int .u16 (v : Nat))).heap[w.heap.size]? = some (.cells (u16s z8).toArray 23 (0, 0))) := (heap_setCell_other wr _ _ _ (by simp)).trans HRb.out
                      have HS2 := hid (HSB.out.set (u + k) (.int .u16 (v : Nat)))
                      have HB3 := hid (HBw.out.setCell (p := ⟨w.heap.size + 1, u + k, none⟩) (Nat.le_succ _) (.int .u16 (v : Nat)))
                      have HX2 : Hid (∀ j, (Y.set (u + k) v)[j]?.getD 0 = if j < f then F[j]?.getD 0 else if 8 - q ≤ j ∧ j < 8 - q + (k + 1) then B[j - (8 - q)]?.getD 0 else 0) := fun j => by
                        have hj := HXF.out j
                        rw [hu] at hj ⊢
                        by_cases e : j = u + k
                        · rw [e, List.getElem?_set_self (by rw [HXL.out]; exact hu2), if_neg (by omega), if_pos (by omega), Nat.add_sub_cancel_left, hv]; rfl
                        · rw [List.getElem?_set_ne (by omega), hj]
                          by_cases e1 : j < f
                          · rw [if_pos e1, if_pos e1]
                          · rw [if_neg e1, if_neg e1]
                            by_cases e2 : u ≤ j ∧ j < u + k
                            · rw [if_pos e2, if_pos (by omega)]
                            · rw [if_neg e2, if_neg (by omega)]
                      have HXL2 : Hid ((Y.set (u + k) v).length = 8) := by show _ = _; rw [List.length_set]; exact HXL.out
                      subst haB
                      clear hv hcB HXL HXF HAb HRb HSB HBw hu HX0
                      go_wp2_with fail
                      go_roundw
                      case rel => exact ⟨k + 1, Y.set (u + k) v, by omega, by go_num, HXL2, HX2, HA2, HR2, HS2, HB3⟩
                      case measure => simp [intOf]; omega
                    · have hkq : k = q := by omega
                      have HXX : Hid (Y = F ++ List.replicate (8 - q - f) 0 ++ B) := ext8 HXL.out (by simp [HFL.out, HBL.out]; omega) (fun j hj => by
                        rw [HXF.out j, hkq]
                        exact (three_at HFL.out HBL.out h7 hj).symm)
                      have hltz2 : ¬ (k : Int) < (q : Int) := by omega
                      have HY2 : Hid (prs (bn s) = some Y) := by show _ = _; rw [HXX.out]; exact HYY.out
                      clear HXF HXX HYY HSB HX0
                      go_wp2_with (first
                        | (refine wpList_load_row rfl 23 (.tmp 4) rfl (w.heap.size + 1) rfl 23 (u16s Y).toArray (0, 0) _ HAb.out Tryd.underlying23 rfl (info8X HXL.out) ?_)
                        | (refine wpList_store_row rfl 23 (.tmp 2) (.tmp 122) rfl w.heap.size (u16s Y).toArray rfl rfl 23 (u16s z8).toArray HRb.out (info8X HXL.out) ((size8 rfl).trans (size8 HXL.out).symm) (one16 Y) ?_))
                      exact bodyPost_ret (results_row_tmp Tryd.results9 _ _ w.heap.size 23 (u16s Y).toArray (0, 0) _ _ rfl (set_row HRb.out) Tryd.underlying23 (info8X HXL.out)) rfl (HYES.out _ _ HY2.out (below_row HBw.out (Nat.le_refl _) _))
            · have HNN := hid (HPR2.out.trans (if_neg h7))
              have h7z : (7 : Int) < (f : Int) + (q : Int) := by omega
              clear HPR2
              go_wp2_with (first
                | (refine wpList_load_row rfl 23 (.tmp 4) rfl (w.heap.size + 1) rfl 23 (u16s z8).toArray (0, 0) _ HAb.out Tryd.underlying23 rfl (info8X HXL.out) ?_)
                | (refine wpList_store_row rfl 23 (.tmp 2) (.tmp 93) rfl w.heap.size (u16s z8).toArray rfl rfl 23 (u16s z8).toArray HRb.out (info8X HXL.out) ((size8 rfl).trans (size8 HXL.out).symm) (one16 z8) ?_))
              exact bodyPost_ret (results_row_tmp Tryd.results9 _ _ w.heap.size 23 (u16s z8).toArray (0, 0) _ _ rfl (set_row HRb.out) Tryd.underlying23 (info8X HXL.out)) rfl (HNO.out _ HNN.out (below_row HBw.out (Nat.le_refl _) _))
end Go.Proofs.YtpkmpebhlolhaaaDoor.X
