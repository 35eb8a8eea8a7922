/- head: a byte. (Stage 19.) -/
import Derived.Test.YtacbfbhhhofifaaDoorHPI
namespace Go.Proofs.YtacbfbhhhofifaaDoor.Hd
open Go.RowKit
open Go.Proofs.YtacbfbhhhofifaaDoor.F (bn bn_length bn_append bn_inj bn_get byte_bd hid bn_extract isEmpty_false isEmpty_true str_eq same_eq)
set_option linter.unusedVariables false

theorem step_nl {s : St} (h : ¬ 16384 < s.n + 1) : step s 10 = atEndS { s with n := s.n + 1 } := by
  unfold atEndS
  cases he : ends (s.cur ++ [10]) with
  | false => rw [step_bad h rfl he, if_pos rfl]
  | true => rw [step_fin h rfl he, if_neg (by decide)]
set_option maxRecDepth 100000 in
set_option maxHeartbeats 8000000 in
theorem take_any (base : Nat) (W : World) (b : Nat) (s : St) (c : Int) (h : Liv base W b s) (c0 : 0 ≤ c) (c1 : c ≤ 255) : Calls Tryd.prog 32 #[.pointer (some ⟨b, 0, none⟩), .int .u8 c] W fun e W' => TkR base b (step s c) e W' ∧ Bel base W W' := by
  have HL := hid h
  obtain ⟨L, M, T, v, F, fs, hm, hr⟩ := h.ex
  have hn := h.n
  obtain ⟨al, cl, rfl⟩ := hm.ln.form
  have d2 : W.cell? ⟨b, 2, none⟩ = some (.int .i64 s.n) := hm.cell 2
  obtain ⟨m1, b1, _⟩ := hm.set (stN s) 0 (s.n + 1) (.slice al s.cur.length cl) M T v F s.cur fs hm.ln hm.fl
  have HM := hid hm
  have HR := hid hr
  have HM1 := hid m1
  have HB1 := hid b1
  have hw : IntKind.i64.wrap ((s.n : Int) + 1) = (s.n : Int) + 1 := by rw [IntKind.wrap_i64]; omega
  clear hm hr h m1 b1
  by_cases hmany : 16384 < s.n + 1
  · rw [step_many hmany]
    have hz : (16384 : Int) < (s.n : Int) + 1 := by omega
    go_enter Tryd.func32, Tryd.ntmps32
    go_wp2_with (refine wpList_store_in rfl 3 (.tmp 10) (.tmp 8) rfl b 2 (.int .i64 ((s.n : Int) + 1)) rfl rfl rfl 62 _ HM.out.row (show (2 : Nat) < 8 by decide) (by kernel_rfl) ?_; obtain ⟨w1, hw1⟩ : ∃ x, x = W.setRow b (rw8 (stN s) 0 ((s.n : Int) + 1) (.slice al s.cur.length cl) M T v F) := ⟨_, rfl⟩; rw [← hw1] at HM1 HB1; show wpList _ _ _ _ _ (W.setRow b (rw8 (stN s) 0 ((s.n : Int) + 1) (.slice al s.cur.length cl) M T v F)); rw [← hw1]; clear hw1 HM d2; have d2 : w1.cell? ⟨b, 2, none⟩ = some (.int .i64 ((s.n : Int) + 1)) := HM1.out.cell 2)
    exact ⟨rfl, .inl ⟨(show (195 : Nat) ≠ 0 by decide), rfl, ⟨_, _, _, _, _, _, _, _, _, HM1.out⟩⟩, HB1.out⟩
  · have hz : ¬ (16384 : Int) < (s.n : Int) + 1 := by omega
    have hst : stN { s with n := s.n + 1 } = stN s := rfl
    by_cases h10 : c = 10
    · subst h10
      rw [step_nl hmany]
      obtain ⟨S, hS⟩ : ∃ S, atEndS { s with n := s.n + 1 } = S := ⟨_, rfl⟩
      have HEL := hid (fun W (hW : Liv base W b { s with n := s.n + 1 }) => endLine_any base W b { s with n := s.n + 1 } hW)
      rw [hS] at HEL ⊢
      clear hS
      have HLIV := hid (fun W (hm : Mem base W b (stN s) 0 ((s.n : Int) + 1) (.slice al s.cur.length cl) M T v F s.cur fs) => (⟨⟨.slice al s.cur.length cl, M, T, v, F, fs, (by have q : (((s.n + 1 : Nat)) : Int) = (s.n : Int) + 1 := (by omega); show Mem base W b (stN s) 0 ((s.n + 1 : Nat) : Int) _ M T v F s.cur fs; rw [q]; exact hm), HR.out⟩, HL.out.d, HL.out.e, HL.out.len, (by show s.n + 1 ≤ 16384; omega), HL.out.by', HL.out.z⟩ : Liv base W b { s with n := s.n + 1 }))
      go_enter Tryd.func32, Tryd.ntmps32
      go_upto_region 4 with (refine wpList_store_in rfl 3 (.tmp 10) (.tmp 8) rfl b 2 (.int .i64 ((s.n : Int) + 1)) rfl rfl rfl 62 _ HM.out.row (show (2 : Nat) < 8 by decide) (by kernel_rfl) ?_; obtain ⟨w1, hw1⟩ : ∃ x, x = W.setRow b (rw8 (stN s) 0 ((s.n : Int) + 1) (.slice al s.cur.length cl) M T v F) := ⟨_, rfl⟩; rw [← hw1] at HM1 HB1; show wpList _ _ _ _ _ (W.setRow b (rw8 (stN s) 0 ((s.n : Int) + 1) (.slice al s.cur.length cl) M T v F)); rw [← hw1]; clear hw1 HM d2; have d2 : w1.cell? ⟨b, 2, none⟩ = some (.int .i64 ((s.n : Int) + 1)) := HM1.out.cell 2; have d3 : w1.cell? ⟨b, 3, none⟩ = some (.slice al s.cur.length cl) := HM1.out.cell 3)
      have HE1 := hid (HEL.out w1 (HLIV.out w1 HM1.out))
      clear HEL HLIV HM1
      go_wp2_with fail
      refine HE1.out.mono ?_
      rintro e w4 ⟨hT, hB4⟩
      have HB4 := hid (HB1.out.trans hB4)
      rcases hT with ⟨h1, rfl, h2⟩ | ⟨h1, h2, rfl, h3⟩ | ⟨h1, h2, rfl, h3⟩
      · have H := hid (And.intro h1 h2)
        clear h1 h2 hB4 HE1
        go_wp2
        exact ⟨rfl, .inl ⟨H.out.1, rfl, H.out.2⟩, HB4.out⟩
      · have H := hid (And.intro h1 (And.intro h2 h3))
        clear h1 h2 h3 hB4 HE1
        go_wp2
        refine bodyPost_ret (v := .tuple #[]) (by simp [results, Tryd.results32]) rfl ?_
        exact ⟨.inr (.inl ⟨H.out.1, H.out.2.1, rfl, H.out.2.2⟩), HB4.out⟩
      · have H := hid (And.intro h1 (And.intro h2 h3))
        clear h1 h2 h3 hB4 HE1
        go_wp2
        refine bodyPost_ret (v := .tuple #[]) (by simp [results, Tryd.results32]) rfl ?_
        exact ⟨.inr (.inr ⟨H.out.1, H.out.2.1, rfl, H.out.2.2⟩), HB4.out⟩
    · have h10b : (c == 10) = false := by simpa using h10
      have hcl := HL.out.len
      have hlen9 : (s.cur ++ [c]).length = s.cur.length + 1 := by simp
      go_enter Tryd.func32, Tryd.ntmps32
      go_upto_region 5 with (refine wpList_store_in rfl 3 (.tmp 10) (.tmp 8) rfl b 2 (.int .i64 ((s.n : Int) + 1)) rfl rfl rfl 62 _ HM.out.row (show (2 : Nat) < 8 by decide) (by kernel_rfl) ?_; obtain ⟨w1, hw1⟩ : ∃ x, x = W.setRow b (rw8 (stN s) 0 ((s.n : Int) + 1) (.slice al s.cur.length cl) M T v F) := ⟨_, rfl⟩; rw [← hw1] at HM1 HB1; show wpList _ _ _ _ _ (W.setRow b (rw8 (stN s) 0 ((s.n : Int) + 1) (.slice al s.cur.length cl) M T v F)); rw [← hw1]; clear hw1 HM d2; have d2 : w1.cell? ⟨b, 2, none⟩ = some (.int .i64 ((s.n : Int) + 1)) := HM1.out.cell 2; have d3 : w1.cell? ⟨b, 3, none⟩ = some (.slice al s.cur.length cl) := HM1.out.cell 3)
      have HBA := (Below.refl w1.heap.size w1).alloc (Nat.le_refl _) (.cells #[.int .u8 c] 5)
      have HM2 := hid (HM1.out.below HBA)
      have HB2 := hid (HB1.out.trans (HBA.bel HM1.out.base_le))
      have hb2 : base ≤ (w1.alloc (.cells #[.int .u8 c] 5)).heap.size := HM2.out.base_le
      have hu : (w1.alloc (.cells #[.int .u8 c] 5)).cell? ⟨w1.heap.size, 0, none⟩ = some (.int .u8 c) := cell_of_row _ _ 0 _ _ _ (heap_alloc_last w1 (.cells #[.int .u8 c] 5))
      have HU := hid hu
      clear HBA hu
      go_upto_region 6 with (first
        | (at_builtin; refine wpList_append_byte rfl _ _ rfl base _ s.cur rfl HM2.out.ln _ c rfl HU.out (by omega) hb2 ?_; intro v' w9 r' g'; have HL9 := hid r'; obtain ⟨h91, h92, h93⟩ := HM2.out.grownL g' r'; have HW9 := hid h91; have HF9 := hid h92; have HB9 := hid (HB2.out.trans h93); clear r' g' h91 h92 h93; obtain ⟨a9, c9, rfl⟩ := HL9.out.form; rw [hlen9] at HL9)
        | (refine wpList_store_in rfl 38 (.tmp 30) (.tmp 28) rfl b 3 (.slice a9 (s.cur.length + 1) c9) rfl rfl rfl 62 _ HW9.out (show (3 : Nat) < 8 by decide) (by kernel_rfl) ?_))
      obtain ⟨m10, b10, _⟩ := mem_set HM1.out.hb HW9.out (stN s) 0 ((s.n : Int) + 1) (.slice a9 (s.cur.length + 1) c9) M T v F (s.cur ++ [c]) fs HL9.out HF9.out
      have HM10 := hid m10
      have HB10 := hid (HB9.out.trans b10)
      clear m10 b10 HM1 HM2 HB2 hb2 HU HB9 HL9 HF9 d2 d3
      show Code.wp _ _ _ _ (World.setRow w9 b (rw8 (stN s) 0 ((s.n : Int) + 1) (.slice a9 (s.cur.length + 1) c9) M T v F))
      obtain ⟨wq, hwq⟩ : ∃ x, x = World.setRow w9 b (rw8 (stN s) 0 ((s.n : Int) + 1) (.slice a9 (s.cur.length + 1) c9) M T v F) := ⟨_, rfl⟩
      rw [← hwq] at HM10 HB10 ⊢
      clear hwq HW9
      have d3 : wq.cell? ⟨b, 3, none⟩ = some (.slice a9 (s.cur.length + 1) c9) := HM10.out.cell 3
      have d0 : wq.cell? ⟨b, 0, none⟩ = some (.int .u8 (stN s)) := HM10.out.cell 0
      by_cases hlong : 4097 < s.cur.length + 1
      · have hlz : (4097 : Int) < (s.cur.length : Int) + 1 := by omega
        have HTL := hid (long_any wq b s d0)
        have HST := hid (step_long hmany h10 hlong)
        clear d0
        cases hi : s.is with
        | true =>
          rw [hi] at HTL
          have HST2 : Hid (step s c = { s with n := s.n + 1, e := 195 }) := by show _ = _; rw [HST.out, if_pos hi]
          have HTL2 : Hid (Calls Tryd.prog 36 #[.pointer (some ⟨b, 0, none⟩)] wq fun e W' => e = .returned (.int .i64 195) ∧ W' = wq) := HTL
          clear HST HTL hi
          go_wp2_with (go_at_call 36; refine HTL2.out.mono ?_; rintro e w12 ⟨rfl, rfl⟩)
          refine ⟨rfl, ?_, HB10.out⟩
          rw [HST2.out]
          exact .inl ⟨(show (195 : Nat) ≠ 0 by decide), rfl, ⟨_, _, _, _, _, _, _, _, _, HM10.out⟩⟩
        | false =>
          rw [hi] at HTL
          have HST2 : Hid (step s c = { s with n := s.n + 1, e := 194 }) := by show _ = _; rw [HST.out, if_neg (by rw [hi]; decide)]
          have HTL2 : Hid (Calls Tryd.prog 36 #[.pointer (some ⟨b, 0, none⟩)] wq fun e W' => e = .returned (.int .i64 194) ∧ W' = wq) := HTL
          clear HST HTL hi
          go_wp2_with (go_at_call 36; refine HTL2.out.mono ?_; rintro e w12 ⟨rfl, rfl⟩)
          refine ⟨rfl, ?_, HB10.out⟩
          rw [HST2.out]
          exact .inl ⟨(show (194 : Nat) ≠ 0 by decide), rfl, ⟨_, _, _, _, _, _, _, _, _, HM10.out⟩⟩
      · have hlz : ¬ (4097 : Int) < (s.cur.length : Int) + 1 := by omega
        have HST := hid (step_char hmany h10 hlong)
        go_wp2
        go_end0
        rw [HST.out]
        refine ⟨.inr (.inl ⟨HL.out.e, HL.out.d, rfl, ?_⟩), HB10.out⟩
        exact ⟨⟨.slice a9 (s.cur.length + 1) c9, M, T, v, F, fs, HM10.out, HR.out⟩, HL.out.d, HL.out.e, by show (s.cur ++ [c]).length ≤ 4097; omega, by show s.n + 1 ≤ 16384; omega, (fun x hx => by
          rcases List.mem_append.1 hx with hx | hx
          · exact HL.out.by' x hx
          · rw [List.mem_singleton.1 hx]; exact ⟨c0, c1⟩), HL.out.z⟩
end Go.Proofs.YtacbfbhhhofifaaDoor.Hd
