/- head: a reader, its making, its bytes; a row of fields copied. (Stage 19.) -/
import Derived.Test.YtacbfbhhhofifaaDoorHPK
import Derived.Test.YtacbfbhhhofifaaDoorHXC
namespace Go.Proofs.YtacbfbhhhofifaaDoor.Hd
open Go.RowKit
open Go.Proofs.YtacbfbhhhofifaaDoor.F (bn bn_length bn_append bn_inj bn_get byte_bd hid bn_extract isEmpty_false isEmpty_true str_eq same_eq)
set_option linter.unusedVariables false

/-- A broken reader. -/
def Brk (base : Nat) (W : World) (b n e : Nat) : Prop := Mem base W b 5 e n (.slice none 0 0) ⟨#[]⟩ ⟨#[]⟩ 0 (.slice none 0 0) [] []
/-- A reader, behind any bytes. -/
def RdS (base : Nat) (W : World) (b : Nat) (s : St) : Prop := (s.e = 0 ∧ s.d = false ∧ Liv base W b s) ∨ (s.e = 0 ∧ s.d = true ∧ Dne base W b s) ∨ (s.e ≠ 0 ∧ s.d = false ∧ Brk base W b s.n s.e)
def stR (s : St) : Int := if s.e ≠ 0 then 5 else if s.d = true then 4 else stN s
def Rd (base : Nat) (W : World) (p : Value) (l : List Int) : Prop := ∃ b, p = .pointer (some ⟨b, 0, none⟩) ∧ RdS base W b (go s0 l) ∧ (go s0 l).n = l.length
theorem stR_pos (s : St) : stR s ≠ 0 := by
  unfold stR stN
  split
  · decide
  · split
    · decide
    · split
      · decide
      · split <;> decide
theorem RdS.mem {base : Nat} {W : World} {b : Nat} {s : St} (h : RdS base W b s) : ∃ wr L M T v F l fs, Mem base W b (stR s) wr s.n L M T v F l fs := by
  rcases h with ⟨h1, h2, h3⟩ | ⟨h1, h2, h3⟩ | ⟨h1, h2, h3⟩
  · obtain ⟨L, M, T, v, F, fs, hm, _⟩ := h3.ex
    have e : stR s = stN s := by unfold stR; rw [if_neg (by simp [h1]), if_neg (by simp [h2])]
    rw [e]
    exact ⟨_, _, _, _, _, _, _, _, hm⟩
  · obtain ⟨L, M, T, v, F, fs, l, hm, _⟩ := h3
    have e : stR s = 4 := by unfold stR; rw [if_neg (by simp [h1]), if_pos h2]
    rw [e]
    exact ⟨_, _, _, _, _, _, _, _, hm⟩
  · have e : stR s = 5 := by unfold stR; rw [if_pos h1]
    rw [e]
    exact ⟨_, _, _, _, _, _, _, _, h3⟩
theorem RdS.below {base : Nat} {W W' : World} {b : Nat} {s : St} (h : RdS base W b s) (hb : Below W.heap.size W W') : RdS base W' b s := by
  rcases h with ⟨h1, h2, h3⟩ | ⟨h1, h2, h3⟩ | ⟨h1, h2, h3⟩
  · exact .inl ⟨h1, h2, h3.below hb⟩
  · exact .inr (.inl ⟨h1, h2, h3.below hb⟩)
  · exact .inr (.inr ⟨h1, h2, Mem.below h3 hb⟩)
set_option maxRecDepth 100000 in
set_option maxHeartbeats 2000000 in
theorem made_any (W : World) (b : Nat) (st : Int) (c0 : W.cell? ⟨b, 0, none⟩ = some (.int .u8 st)) (h : st ≠ 0) : Calls Tryd.prog 30 #[.pointer (some ⟨b, 0, none⟩)] W fun e W' => e = .returned (.bool true) ∧ W' = W := by
  have hz : (st != 0) = true := by simpa using h
  go_enter Tryd.func30, Tryd.ntmps30
  go_wp2
  go_ret
  exact ⟨rfl, rfl⟩
theorem made_nil (W : World) : Calls Tryd.prog 30 #[.pointer none] W fun e W' => e = .returned (.bool false) ∧ W' = W := by
  go_enter Tryd.func30, Tryd.ntmps30
  go_wp2
  go_ret
  exact ⟨rfl, rfl⟩
set_option maxRecDepth 100000 in
set_option maxHeartbeats 2000000 in
theorem new_any (w : World) : Calls Tryd.prog 20 #[] w fun e W' => (∃ a, e = .returned (.pointer (some a)) ∧ Rd w.heap.size W' (.pointer (some a)) []) ∧ Below w.heap.size w W' := by
  go_enter Tryd.func20, Tryd.ntmps20
  go_wp2
  go_ret
  refine ⟨⟨_, rfl, w.heap.size, rfl, .inl ⟨rfl, rfl, ⟨⟨.slice none 0 0, ⟨#[]⟩, ⟨#[]⟩, 0, .slice none 0 0, [], ⟨Nat.le_refl _, heap_alloc_last w _, LnOwn.nil _ _, FldOwn.nil _ _⟩, rfl, by decide, by decide, by decide⟩, rfl, rfl, by decide, by decide, (fun x hx => by cases hx), fun _ => rfl⟩⟩, rfl⟩, (Below.refl _ w).alloc (Nat.le_refl _) _⟩
set_option maxRecDepth 100000 in
set_option maxHeartbeats 2000000 in
theorem bytes_any (base : Nat) (W : World) (p : Value) (l : List Int) (h : Rd base W p l) : Calls Tryd.prog 18 #[p] W fun e W' => e = .returned (.int .i64 l.length) ∧ Rd base W' p l ∧ Below W.heap.size W W' := by
  have HR := hid h
  obtain ⟨b, rfl, hs, hn⟩ := h
  obtain ⟨wr, L, M, T, v, F, l', fs, hm⟩ := hs.mem
  have c0 : W.cell? ⟨b, 0, none⟩ = some (.int .u8 (stR (go s0 l))) := hm.cell 0
  have c2 : W.cell? ⟨b, 2, none⟩ = some (.int .i64 ((go s0 l).n : Nat)) := hm.cell 2
  rw [hn] at c2
  have HM := hid (made_any W b _ c0 (stR_pos _))
  clear hs hm hn c0
  go_enter Tryd.func18, Tryd.ntmps18
  go_wp2_with (go_at_call 30; refine HM.out.mono ?_; rintro e w1 ⟨rfl, rfl⟩)
  go_ret
  exact ⟨rfl, HR.out, Below.refl _ _⟩
theorem bytes_nil (W : World) : Calls Tryd.prog 18 #[.pointer none] W fun e W' => e = .returned (.int .i64 0) ∧ Below W.heap.size W W' := by
  have HM := hid (made_nil W)
  go_enter Tryd.func18, Tryd.ntmps18
  go_wp2_with (go_at_call 30; refine HM.out.mono ?_; rintro e w1 ⟨rfl, rfl⟩)
  go_ret
  exact ⟨rfl, Below.refl _ _⟩
/-- A row of no fields that a call made. -/
theorem own_none {w : World} {base g : Nat} (h1 : base ≤ g) (h2 : w.heap[g]? = some (.cells #[] 40 (0, 0))) : FldOwn w base (.slice (some ⟨g, 0, none⟩) 0 0) [] :=
  ⟨rfl, .inr ⟨g, 0, #[], rfl, h1, h2, Nat.le_refl _, by unfold maxLen; omega, rfl, rfl⟩⟩
set_option maxRecDepth 100000 in
set_option maxHeartbeats 4000000 in
theorem sclone_any (F : Value) (fs : List Fb) (W : World) (hF : FldAt W F fs) (hl : fs.length ≤ 1000000) : Calls Tryd.prog 33 #[F] W fun e W' => (∃ u, e = .returned u ∧ FldOwn W' W.heap.size u fs) ∧ Below W.heap.size W W' := by
  have HF := hid hF
  obtain ⟨ao, cap, rfl, h0, h1⟩ := hF
  rcases ao with _ | a
  · have hl0 : fs = [] := by
      rcases fs with _ | ⟨x, fs⟩
      · rfl
      · obtain ⟨b, off, e, _⟩ := h1 (by simp)
        cases e
    subst hl0
    obtain rfl := h0 rfl
    clear h1 h0
    have hn : ∀ w : World, (binOp .eql 25 (.slice none 0 0) (.slice none 0 0)).run Tryd.prog w = .ok (.bool true) w := fun w => by kernel_rfl
    simp only [List.length_nil]
    go_enter Tryd.func33, Tryd.ntmps33
    go_wp2
    go_ret
    exact ⟨⟨_, rfl, FldOwn.nil _ _⟩, Below.refl _ _⟩
  · have hn : ∀ (w : World), (binOp .eql 25 (.slice (some a) fs.length cap) (.slice none 0 0)).run Tryd.prog w = .ok (.bool false) w := fun w => by kernel_rfl
    clear h0 h1
    have HB := (Below.refl W.heap.size W).alloc (Nat.le_refl _) (.cells #[] 40)
    have HO := hid (own_none (w := W.alloc (.cells #[] 40)) (base := W.heap.size) (Nat.le_refl _) (heap_alloc_last W (.cells #[] 40)))
    have HF2 := hid (HF.out.below HB)
    have HBB := hid HB
    have hsz : W.heap.size ≤ (W.alloc (.cells #[] 40)).heap.size := by simp
    clear HB
    go_enter Tryd.func33, Tryd.ntmps33
    go_wp2_with (at_builtin; refine wpList_append_flds rfl _ _ rfl W.heap.size _ [] rfl HO.out _ fs rfl HF2.out (by simp; omega) hsz ?_; intro v' w9 r' g'; have HO9 := hid r'; have HB9 := hid (below_grow HBB.out hsz (Nat.le_refl _) HO.out g'); clear r' g')
    go_ret
    exact ⟨⟨_, rfl, HO9.out⟩, HB9.out⟩
end Go.Proofs.YtacbfbhhhofifaaDoor.Hd
