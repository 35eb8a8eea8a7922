/- The contract of utf.Clean: the bytes of what stands in its bytes. -/
import Derived.Test.YtfjfhfolikgajaaI
import Derived.Test.YtfjfhfolikgajaaP
import Derived.Test.YtfjfhfolikgajaaD
import Derived.Laws.IdiomStrings
import Derived.Laws.OwnMore
namespace Go.Proofs.Ytfjfhfolikgajaa
open Go.RowKit Go.Shelf
attribute [local go_sem] Oper.semAt_some

/-- The bytes of code points, one behind the other. -/
def encs (l : List Int) : List Int := l.flatMap enc
theorem encs_snoc (l : List Int) (x : Int) : encs (l ++ [x]) = encs l ++ enc x := by simp [encs]
theorem encs_len (l : List Int) : (encs l).length ≤ 4 * l.length := by
  induction l with
  | nil => simp [encs]
  | cons a t ih =>
    have := enc_len a
    simp only [encs, List.flatMap_cons, List.length_append, List.length_cons] at *
    omega

theorem enc_bytes (c : Int) (h0 : 0 ≤ c) (h1 : c ≤ 1114111) : Bytes (enc c) := by
  intro b hb
  unfold enc at hb
  by_cases q1 : c < 128
  · rw [if_pos q1] at hb; simp at hb; omega
  · rw [if_neg q1] at hb
    by_cases q2 : c < 2048
    · rw [if_pos q2] at hb; simp at hb; omega
    · rw [if_neg q2] at hb
      by_cases q3 : c < 65536
      · rw [if_pos q3] at hb; simp at hb; omega
      · rw [if_neg q3] at hb; simp at hb; omega
theorem encs_bytes (l : List Int) (h : ∀ c ∈ l, 0 ≤ c ∧ c ≤ 1114111) : Bytes (encs l) := by
  intro b hb
  obtain ⟨c, hc, hbc⟩ := List.mem_flatMap.1 hb
  exact enc_bytes c (h c hc).1 (h c hc).2 b hbc
theorem fsts_bd (l : List Sc) : ∀ c ∈ fsts l, 0 ≤ c ∧ c ≤ 1114111 := by
  intro c hc
  obtain ⟨x, _, rfl⟩ := List.mem_map.1 hc
  exact x.2
theorem bytes_back (ns : List Int) (h : Bytes ns) : (ns.map fun n => UInt8.ofNat n.toNat).map (fun c => (c.toNat : Int)) = ns := by
  rw [List.map_map]
  conv => rhs; rw [← List.map_id ns]
  apply List.map_congr_left
  intro a ha
  have := h a ha
  simp only [Function.comp, id, UInt8.toNat_ofNat']
  omega
theorem addr_add0 (g j : Nat) : ((⟨g, 0, none⟩ : Addr).add j) = ⟨g, j, none⟩ := by
  simp [Addr.add]; exact fun h => h.symm

/-- A conversion of owned bytes to a string. -/
theorem conv_string (w : World) (base : Nat) (v : Value) (n : Nat) (ns : List Int) (hn : n = ns.length) (hb : Bytes ns) (hrow : w.ownsRow base 5 1 v n (ns.map (Value.int .u8))) :
    ∃ t : ByteArray, (convert 50 9 v).run Try.prog w = .ok (.string t) w ∧ bn t = ns := by
  subst hn
  rcases id hrow.2 with ⟨rfl, h0⟩ | ⟨g, cap, cur, rfl, _⟩
  · refine ⟨⟨#[]⟩, ?_, ?_⟩
    · rw [run_convert_bytes_string w 50 9 5 none 0 0 Try.underlying50 Try.underlying5 Try.underlying9]
      simp [Conv.bytesToString]
      rfl
    · rw [List.length_eq_zero_iff.1 h0]; rfl
  · refine ⟨⟨(ns.map fun n => UInt8.ofNat n.toNat).toArray⟩, ?_, ?_⟩
    · have := run_convert_bytes_back (P := Try.prog) w 50 9 5 ⟨g, 0, none⟩ cap (ns.map fun n => UInt8.ofNat n.toNat) Try.underlying50 Try.underlying5 Try.underlying9 (by
        intro j hj
        rw [addr_add0, hrow.cellAt j (by simpa using hj)]
        have hj' : j < ns.length := by simpa using hj
        have hbj := hb ns[j] (List.getElem_mem hj')
        rw [List.getElem?_map, List.getElem?_eq_getElem hj']
        simp only [Option.map_some, List.getElem_map, UInt8.toNat_ofNat']
        congr 2
        omega)
      rw [List.length_map] at this
      exact this
    · unfold bn
      simp only
      exact bytes_back ns hb

theorem boxed_called {W w1 : World} {n₀ B : Nat} {t e : TypeId} {size : Nat} {v v' : Value} {k m : Nat} {xs ys : List Value}
    (hv : Boxed W B t v) (hte : t ≠ e) (hrow : W.ownsRow n₀ e size v k xs) (hn₀ : n₀ ≤ W.heap.size) (hB : n₀ ≤ B)
    (hown' : w1.ownsRow n₀ e size v' m ys) (hgrow : W.grownBy w1 v.ownBlock) :
    Boxed w1 B t v ∧ Boxed (w1.setCell ⟨B, 0, none⟩ v') B t v' ∧ (w1.setCell ⟨B, 0, none⟩ v').ownsRow n₀ e size v' m ys ∧ KeepsOthers W (w1.setCell ⟨B, 0, none⟩ v') ∧ Below n₀ W (w1.setCell ⟨B, 0, none⟩ v') := by
  have hv1 : Boxed w1 B t v := hv.kept hgrow (hv.not_row hte hrow)
  refine ⟨hv1, hv1.set v', hown'.kept (grownBy_setCell' w1 B v') (.inr (hv1.not_row hte hown').symm), ?_, ?_⟩
  · refine (KeepsOthers.of_grownBy hgrow fun j o ej hj => ?_).trans (KeepsOthers.setCell _ _ _)
    rcases hrow.2 with ⟨rfl, _⟩ | ⟨g, cap, cur, rfl, _, hgb, _⟩
    · simp [Value.ownBlock] at ej
    · obtain rfl : g = j := by simpa [Value.ownBlock] using ej
      rw [hgb] at hj; cases hj; rfl
  · refine ((Below.refl n₀ W).grown hgrow hn₀ fun j ej => ?_).setCell (p := ⟨B, 0, none⟩) hB v'
    rcases hrow.2 with ⟨rfl, _⟩ | ⟨g, cap, cur, rfl, hb, _, _⟩
    · simp [Value.ownBlock] at ej
    · obtain rfl : g = j := by simpa [Value.ownBlock] using ej
      exact hb

set_option maxRecDepth 100000 in
set_option maxHeartbeats 2000000 in
theorem clean_any (s : ByteArray) (hs : s.size ≤ 68719476736) (w : World) :
    Calls Try.prog 17 #[.string s] w fun e W' => (∃ t, e = .returned (.string t) ∧ bn t = encs (dec (bn s))) ∧ Below w.heap.size w W' := by
  refine (callsIn_wide (n := 3)).1 ?_
  refine callsIn_of_wp_marks Try.func17 rfl trivial ?_ rfl
  simp only [Try.ntmps17, List.size_toArray, List.length_cons, List.length_nil, Nat.reduceAdd, Nat.reduceSub, Array.replicate_succ, Array.replicate_zero, List.push_toArray, List.append_toArray, List.nil_append, List.cons_append]
  gi_wp2_with fail
  refine ⟨trivial, ?_⟩
  refine (scalars_in _ s _).mono ?_
  rintro e w' ⟨rfl, rfl⟩
  gi_wp2_with fail
  have bO := Boxed.new w 50 (.slice none 0 0)
  have bN := Boxed.new (w.alloc (.cells #[.slice none 0 0] 50)) 9 (.string s)
  rw [World.size_alloc] at bN
  have hB0 : Below w.heap.size w ((w.alloc (.cells #[.slice none 0 0] 50)).alloc (.cells #[.string s] 9)) := ((Below.refl _ w).alloc (Nat.le_refl _) _).alloc (by simp) _
  refine wpIn_rangeFunc_ownG rfl (by omega) (gf := 29) (lb := #[.pointer (some ⟨w.heap.size + 1, 0, none⟩)]) rfl trivial (enters_of Try.func29 (by kernel_rfl) rfl)
    (iter_stops 2 (by omega) (w.heap.size + 1) s (by omega) _ bN) keepsBox_t (keepsBox_b (by simp)) (Below.refl _ _) (fun _ => rfl)
    (fun pre W => ((∃ v, Boxed W w.heap.size 50 v ∧ W.ownsRow w.heap.size 5 1 v (encs (fsts pre)).length ((encs (fsts pre)).map (Value.int .u8)) ∧ True) ∧ Boxed W (w.heap.size + 1) 9 (.string s)) ∧ Below w.heap.size w W)
    (fun _ _ _ => False)
    (OwnFrom.and (OwnFrom.and (Own.from (holdsRow_own w.heap.size w.heap.size 50 5 1 (fun pre => (encs (fsts pre)).length) (fun pre => (encs (fsts pre)).map (Value.int .u8)) (fun pre v => True)) _) (Own.from (boxed_own _ _ _) _)) (ownFrom_below (Nat.le_refl _) (by simp; omega)))
    (fun _ _ _ _ _ hs _ _ => hs)
    ⟨⟨⟨_, bO.alloc _, World.ownsRow_nil _ _ _ _, trivial⟩, bN⟩, hB0⟩
    (fun x => { tmps := #[.string s, undef, .string { data := #[] }, .pointer (some ⟨w.heap.size, 0, none⟩), .int .i32 x.1.1, .string s, .func (.func 29) #[] #[.pointer (some ⟨w.heap.size + 1, 0, none⟩)], .int .i32 x.1.1, .bool x.1.2, undef, undef, undef, undef, undef], defers := [] }) ?assign ?body ?done ?stop
  case assign =>
    intro l x W K hK
    gi_wp2
    exact hK
  case body =>
    rintro l pre x W ⟨⟨⟨v, hv, hrow, _⟩, hbs⟩, hB⟩ hlt
    have hc := hv.cell
    have hpl : (fsts pre).length ≤ pre.length := Nat.le_of_eq (fsts_len pre)
    have hel := encs_len (fsts pre)
    gi_wp2_with fail
    refine ⟨trivial, ?_⟩
    refine (CallsIn.inRound l (callsIn_wide.2 (append_any w.heap.size v _ _ x.1.1 x.2.1 x.2.2 W hB.size (by omega) hrow))).mono ?_
    rintro e w1 ⟨v', rfl, hown', hgrow⟩
    obtain ⟨g', cap', rfl⟩ : ∃ g cap, v' = .slice (some ⟨g, 0, none⟩) ((encs (fsts pre)).length + (enc x.1.1).length) cap := by
      rcases hown'.2 with ⟨_, h0⟩ | ⟨g, cap, _, rfl, _⟩
      · have := enc_len x.1.1; omega
      · exact ⟨g, cap, rfl⟩
    obtain ⟨hv1, hv2, hr2, hk2, hb2⟩ := boxed_called hv (by decide) hrow hB.size (Nat.le_refl _) hown' hgrow
    have hc1 := hv1.cell
    have hf1 := hv1.frozen
    gi_wp2
    have hbs1 := (hbs.kept hgrow (hbs.not_row (by decide) hrow)).other (B' := w.heap.size) (by omega) (.slice (some ⟨g', 0, none⟩) ((encs (fsts pre)).length + (enc x.1.1).length) cap')
    exact ⟨hk2.from _, fun _ => hbs1, ⟨⟨_, hv2, by rw [fsts_snoc, encs_snoc]; simpa using hr2, trivial⟩, hbs1⟩, hB.trans hb2⟩
  case done =>
    rintro D ys W hD rfl ⟨⟨⟨v, hv, hrow, _⟩, hbs⟩, hB⟩ hK
    have hc := hv.cell
    obtain ⟨t, hcv, ht⟩ := conv_string W w.heap.size v _ (encs (fsts (scl (bn s)))) rfl (encs_bytes _ (fsts_bd _)) hrow
    gi_wp2
    refine ⟨by simp, .inl ⟨_, _, rfl, run_takeDeferred hK, ?_⟩⟩
    exact ⟨_, results_tmp rfl _ _ _, ⟨t, rfl, ht⟩, hB.trans (belowK_b (w := w) (Nat.le_refl _) W D _ _ (by simp at hD; omega) hK rfl rfl)⟩
  case stop =>
    rintro D c pre W _ _ h _
    exact h.elim
end Go.Proofs.Ytfjfhfolikgajaa
