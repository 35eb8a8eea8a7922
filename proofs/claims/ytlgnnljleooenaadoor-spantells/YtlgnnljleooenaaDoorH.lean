/- The contracts of combine, Union, Meet, Less, Not and Norm. -/
import Derived.Test.YtlgnnljleooenaaDoorE
import Derived.Test.YtlgnnljleooenaaDoorG
namespace Go.Proofs.YtlgnnljleooenaaDoor
open Go.RowKit
set_option linter.unusedVariables false

theorem SpansAt.nil (w : World) : SpansAt w (.slice none 0 0) [] := ⟨none, 0, rfl, fun _ => rfl, fun h => by simp at h⟩

/-- What a call answers that puts two sets together. -/
def Answers (c : Bool → Bool → Bool) (a b : List Sp) (w : World) (e : Ending) (W' : World) : Prop :=
  (∃ p k m r, e = .returned (.tuple #[.slice p m.length k, .int .i64 r]) ∧ MadeR c a b m r ∧ SpansAt W' (.slice p m.length k) m) ∧ Below w.heap.size w W'

theorem made_left {c : Bool → Bool → Bool} {a b : List Sp} (h : chk a ≠ 0) : MadeR c a b [] (chk a) := .inl ⟨h, rfl, rfl⟩
theorem made_right {c : Bool → Bool → Bool} {a b : List Sp} (h0 : chk a = 0) (h : chk b ≠ 0) : MadeR c a b [] (chk b) := .inr (.inl ⟨h0, h, rfl, rfl⟩)

set_option maxRecDepth 100000 in
set_option maxHeartbeats 3200000 in
theorem combine_any (g : Nat) (c : Bool → Bool → Bool) (hg : Counts g c) (h00 : c false false = false) (v u : Value) (a b : List Sp) (hA : a.length ≤ 17179869184) (hB : b.length ≤ 17179869184) (w : World) (hv : SpansAt w v a) (hu : SpansAt w u b) :
    Calls Tryd.prog 29 #[v, u, .func (.func g) #[] #[]] w fun e W' => Answers c a b w e W' := by
  obtain ⟨p1, k1, rfl⟩ : ∃ p k, v = .slice p a.length k := by obtain ⟨p, k, e, _⟩ := hv; exact ⟨p, k, e⟩
  obtain ⟨p2, k2, rfl⟩ : ∃ p k, u = .slice p b.length k := by obtain ⟨p, k, e, _⟩ := hu; exact ⟨p, k, e⟩
  have hal : ∀ o, Below w.heap.size w (w.alloc o) := fun o => (Below.refl _ w).alloc (Nat.le_refl _) o
  by_cases hca : chk a = 0
  · have HCA : Hid (chk a = 0) := hca
    by_cases hcb : chk b = 0
    · have HCB : Hid (chk b = 0) := hcb
      clear hca hcb
      go_enter Tryd.func29, Tryd.ntmps29
      go_wp2_with fail
      refine wp_loop_rounds 3 ?_
      rw [rounds_succ]
      go_wp2_with fail
      refine (check_any _ a (by omega) _ (hv.below (hal _) (Nat.le_refl _))).mono ?_
      rw [HCA.out]
      rintro e w1 ⟨rfl, hb1⟩
      have hbw1 : Below w.heap.size w w1 := (hal _).trans (hb1.mono (by simp))
      have hcell : w1.cell? ⟨w.heap.size, 1, none⟩ = some (.slice p2 b.length k2) := by
        rw [hb1.cell (p := ⟨w.heap.size, 1, none⟩) (by simp)]; simp
      clear hb1
      go_wp2_with fail
      rw [rounds_succ]
      go_wp2_with fail
      refine (check_any _ b (by omega) _ (hu.below hbw1 (Nat.le_refl _))).mono ?_
      rw [HCB.out]
      rintro e w2 ⟨rfl, hb2⟩
      have hbw2 : Below w.heap.size w w2 := hbw1.trans (hb2.mono hbw1.size)
      clear hb2 hcell hbw1 hal
      go_wp2_with fail
      rw [rounds_succ]
      go_wp2_with fail
      refine (edges_any _ a HCA.out _ (hv.below hbw2 (Nat.le_refl _))).mono ?_
      rintro e w3 ⟨v3, EA, rfl, hEA, hEAl, hown3, hb3⟩
      have hbw3 : Below w.heap.size w w3 := hbw2.trans (hb3.mono hbw2.size)
      have hi3 : IntsAt w3 v3 EA := IntsAt.own rfl hown3
      clear hown3 hb3
      go_wp2_with fail
      refine (edges_any _ b HCB.out _ (hu.below hbw3 (Nat.le_refl _))).mono ?_
      rintro e w4 ⟨v4, EB, rfl, hEB, hEBl, hown4, hb4⟩
      have hbw4 : Below w.heap.size w w4 := hbw3.trans (hb4.mono hbw3.size)
      have hi3' : IntsAt w4 v3 EA := hi3.below hb4 (Nat.le_refl _)
      have hi4 : IntsAt w4 v4 EB := IntsAt.own rfl hown4
      obtain ⟨hla, hoka⟩ := chk_zero HCA.out
      obtain ⟨hlb, hokb⟩ := chk_zero HCB.out
      have HKA : Hid (a.all ok1 = true) := hoka
      have HKB : Hid (b.all ok1 = true) := hokb
      have HEA : Hid (IsEdges EA (hasP a)) := hEA
      have HEB : Hid (IsEdges EB (hasP b)) := hEB
      clear hown4 hb4 hi3 hoka hokb hEA hEB
      go_wp2_with fail
      refine (sweep_any g c hg _ _ EA EB (by omega) (by omega) _ hi3' hi4).mono ?_
      obtain ⟨hR, hRl⟩ := swp_edges c h00 EA EB HEA.out.1 HEB.out.1
      generalize swp c (EA.length + EB.length) EA EB false false false = R at hR hRl ⊢
      rintro e w5 ⟨v5, rfl, hown5, hb5⟩
      have hR' : IsEdges R (fun x => c (hasP a x) (hasP b x)) := ⟨hR.1, fun x => by rw [hR.2 x]; dsimp only; rw [HEA.out.2, HEB.out.2]⟩
      have hfit := fits_two h00 HKA.out HKB.out
      have hev := hR'.even hfit
      obtain ⟨n, hn⟩ : ∃ n, R.length = 2 * n := ⟨R.length / 2, by omega⟩
      have hbw5 : Below w.heap.size w w5 := hbw4.trans (hb5.mono hbw4.size)
      have hi5 : IntsAt w5 v5 R := IntsAt.own rfl hown5
      have HB : Hid (∀ e ∈ R, 0 ≤ e ∧ e ≤ 1114112) := hR'.bounds hfit
      have HNF : Hid (Nf (fun x => c (hasP a x) (hasP b x)) (btw R)) := ⟨R, n, hR', hn, rfl⟩
      have HML : Hid ((btw R).length = n) := btw_length n R hn
      have hnl : n ≤ a.length + b.length := by omega
      clear hown5 hb5 hR hR' hfit hev hi3' hi4
      go_wp2_with fail
      refine (between_any _ R n hn (by omega) HB.out _ hi5).mono ?_
      rintro e w6 ⟨v6, rfl, hown6, hb6⟩
      have hbw6 : Below w.heap.size w w6 := hbw5.trans (hb6.mono hbw5.size)
      have hi6 : SpansAt w6 v6 (btw R) := SpansAt.own HML.out.symm hown6
      obtain ⟨p6, k6, rfl⟩ : ∃ p k, v6 = .slice p n k := by obtain ⟨p, k, e, _⟩ := hi6; exact ⟨p, k, by rw [e, HML.out]⟩
      clear hown6 hb6 hi5 hn hRl hEAl hEBl
      by_cases hlong : 1024 < n
      · go_wp2
        go_ret2
        refine ⟨⟨none, 0, [], 4, rfl, .inr (.inr ⟨HCA.out, HCB.out, btw R, HNF.out, by rw [HML.out]; exact hnl, .inl ⟨by rw [HML.out]; exact hlong, rfl, rfl⟩⟩), SpansAt.nil _⟩, hbw6⟩
      · go_wp2
        go_ret2
        refine ⟨⟨p6, k6, btw R, 0, by rw [HML.out]; rfl, .inr (.inr ⟨HCA.out, HCB.out, btw R, HNF.out, by rw [HML.out]; exact hnl, .inr ⟨by rw [HML.out]; omega, rfl, rfl⟩⟩), by rw [HML.out]; exact hi6⟩, hbw6⟩
    · have HX : Hid (chk b ≠ 0) := hcb
      go_enter Tryd.func29, Tryd.ntmps29
      go_wp2_with fail
      refine wp_loop_rounds 2 ?_
      rw [rounds_succ]
      go_wp2_with fail
      refine (check_any _ a (by omega) _ (hv.below (hal _) (Nat.le_refl _))).mono ?_
      rw [HCA.out]
      rintro e w1 ⟨rfl, hb1⟩
      have hbw1 : Below w.heap.size w w1 := (hal _).trans (hb1.mono (by simp))
      have hcell : w1.cell? ⟨w.heap.size, 1, none⟩ = some (.slice p2 b.length k2) := by
        rw [hb1.cell (p := ⟨w.heap.size, 1, none⟩) (by simp)]; simp
      clear hb1
      go_wp2_with fail
      rw [rounds_succ]
      go_wp2_with fail
      refine (check_any _ b (by omega) _ (hu.below hbw1 (Nat.le_refl _))).mono ?_
      rintro e w2 ⟨rfl, hb2⟩
      have hbw2 : Below w.heap.size w w2 := hbw1.trans (hb2.mono hbw1.size)
      go_wp2
      go_ret2
      exact ⟨⟨none, 0, [], chk b, rfl, made_right HCA.out HX.out, SpansAt.nil _⟩, hbw2⟩
  · have HX : Hid (chk a ≠ 0) := hca
    go_enter Tryd.func29, Tryd.ntmps29
    go_wp2_with fail
    refine wp_loop_rounds 1 ?_
    rw [rounds_succ]
    go_wp2_with fail
    refine (check_any _ a (by omega) _ (hv.below (hal _) (Nat.le_refl _))).mono ?_
    rintro e w1 ⟨rfl, hb1⟩
    have hbw1 : Below w.heap.size w w1 := (hal _).trans (hb1.mono (by simp))
    go_wp2
    go_ret2
    exact ⟨⟨none, 0, [], chk a, rfl, made_left HX.out, SpansAt.nil _⟩, hbw1⟩

def cOr (x y : Bool) : Bool := x || y
def cAnd (x y : Bool) : Bool := x && y
def cLess (x y : Bool) : Bool := x && !y
theorem counts_or : Counts 30 cOr := ⟨enters_of Tryd.func30 (by kernel_rfl) rfl, fun x y W => by
  cases x
  all_goals
    go_enter Tryd.func30, Tryd.ntmps30
    go_wp2
    go_ret
    exact ⟨by simp [cOr], rfl⟩⟩
theorem counts_and : Counts 31 cAnd := ⟨enters_of Tryd.func31 (by kernel_rfl) rfl, fun x y W => by
  cases x
  all_goals
    go_enter Tryd.func31, Tryd.ntmps31
    go_wp2
    go_ret
    exact ⟨by simp [cAnd], rfl⟩⟩
theorem counts_less : Counts 32 cLess := ⟨enters_of Tryd.func32 (by kernel_rfl) rfl, fun x y W => by
  cases x
  all_goals
    go_enter Tryd.func32, Tryd.ntmps32
    go_wp2
    go_ret
    exact ⟨by simp [cLess], rfl⟩⟩

set_option maxRecDepth 100000 in
theorem union_any (v u : Value) (a b : List Sp) (hA : a.length ≤ 17179869184) (hB : b.length ≤ 17179869184) (w : World) (hv : SpansAt w v a) (hu : SpansAt w u b) :
    Calls Tryd.prog 11 #[v, u] w fun e W' => Answers cOr a b w e W' := by
  go_enter Tryd.func11, Tryd.ntmps11
  go_wp2_with fail
  refine (combine_any 30 cOr counts_or rfl v u a b hA hB _ hv hu).mono ?_
  rintro e w1 ⟨⟨p, k, m, r, rfl, h1, h2⟩, h3⟩
  go_wp2
  go_ret2
  exact ⟨⟨p, k, m, r, rfl, h1, h2⟩, h3⟩
set_option maxRecDepth 100000 in
theorem meet_any (v u : Value) (a b : List Sp) (hA : a.length ≤ 17179869184) (hB : b.length ≤ 17179869184) (w : World) (hv : SpansAt w v a) (hu : SpansAt w u b) :
    Calls Tryd.prog 12 #[v, u] w fun e W' => Answers cAnd a b w e W' := by
  go_enter Tryd.func12, Tryd.ntmps12
  go_wp2_with fail
  refine (combine_any 31 cAnd counts_and rfl v u a b hA hB _ hv hu).mono ?_
  rintro e w1 ⟨⟨p, k, m, r, rfl, h1, h2⟩, h3⟩
  go_wp2
  go_ret2
  exact ⟨⟨p, k, m, r, rfl, h1, h2⟩, h3⟩
set_option maxRecDepth 100000 in
theorem minus_any (v u : Value) (a b : List Sp) (hA : a.length ≤ 17179869184) (hB : b.length ≤ 17179869184) (w : World) (hv : SpansAt w v a) (hu : SpansAt w u b) :
    Calls Tryd.prog 13 #[v, u] w fun e W' => Answers cLess a b w e W' := by
  go_enter Tryd.func13, Tryd.ntmps13
  go_wp2_with fail
  refine (combine_any 32 cLess counts_less rfl v u a b hA hB _ hv hu).mono ?_
  rintro e w1 ⟨⟨p, k, m, r, rfl, h1, h2⟩, h3⟩
  go_wp2
  go_ret2
  exact ⟨⟨p, k, m, r, rfl, h1, h2⟩, h3⟩

theorem SpansAt.new1 (w : World) (x y : Int) (H : Nat) (hH : w.heap.size = H) : SpansAt (w.alloc (.cells #[.int .i32 x, .int .i32 y] 44)) (.slice (some ⟨H, 0, none⟩) 1 1) [(x, y)] := by
  subst hH
  refine ⟨_, 1, rfl, (fun e => by cases e), fun _ => ⟨_, 0, rfl, fun j hj => ?_⟩⟩
  have hj' : j < 1 := hj
  obtain rfl : j = 0 := by omega
  have h := news_at w 44 [.int .i32 x, .int .i32 y]
  have h0 := h 0 _ rfl
  have h1 := h 1 _ rfl
  rw [addr_add] at h0 h1
  exact ⟨h0, h1⟩
set_option maxRecDepth 100000 in
theorem not_any (v : Value) (a : List Sp) (hA : a.length ≤ 17179869184) (w : World) (hv : SpansAt w v a) :
    Calls Tryd.prog 14 #[v] w fun e W' => Answers cLess [(0, 1114111)] a w e W' := by
  have hal : ∀ o, Below w.heap.size w (w.alloc o) := fun o => (Below.refl _ w).alloc (Nat.le_refl _) o
  go_enter Tryd.func14, Tryd.ntmps14
  go_wp2_with fail
  refine (minus_any _ v [(0, 1114111)] a (by simp) hA _ (SpansAt.new1 w 0 1114111 _ rfl) (hv.below (hal _) (Nat.le_refl _))).mono ?_
  rintro e w1 ⟨⟨p, k, m, r, rfl, h1, h2⟩, h3⟩
  go_wp2
  go_ret2
  exact ⟨⟨p, k, m, r, rfl, h1, h2⟩, (hal _).trans (h3.mono (by simp))⟩

/-- What Norm answers. -/
def NormR (a m : List Sp) (e : Int) : Prop := (chk a ≠ 0 ∧ m = [] ∧ e = chk a) ∨ (chk a = 0 ∧ Nf (hasP a) m ∧ m.length ≤ a.length ∧ e = 0)
def NormAns (a : List Sp) (w : World) (e : Ending) (W' : World) : Prop :=
  (∃ p k m r, e = .returned (.tuple #[.slice p m.length k, .int .i64 r]) ∧ NormR a m r ∧ SpansAt W' (.slice p m.length k) m) ∧ Below w.heap.size w W'
set_option maxRecDepth 100000 in
theorem norm_any (v : Value) (a : List Sp) (hA : a.length ≤ 17179869184) (w : World) (hv : SpansAt w v a) :
    Calls Tryd.prog 15 #[v] w fun e W' => NormAns a w e W' := by
  by_cases hca : chk a = 0
  · have HCA : Hid (chk a = 0) := hca
    clear hca
    go_enter Tryd.func15, Tryd.ntmps15
    go_wp2_with fail
    refine (check_any _ a (by omega) _ hv).mono ?_
    rw [HCA.out]
    rintro e w1 ⟨rfl, hb1⟩
    go_wp2_with fail
    refine (edges_any _ a HCA.out _ (hv.below hb1 (Nat.le_refl _))).mono ?_
    rintro e w3 ⟨v3, EA, rfl, hEA, hEAl, hown3, hb3⟩
    have hbw3 : Below w.heap.size w w3 := hb1.trans (hb3.mono hb1.size)
    have hi3 : IntsAt w3 v3 EA := IntsAt.own rfl hown3
    obtain ⟨hla, hoka⟩ := chk_zero HCA.out
    have hfit := fits_has hoka
    have hev := hEA.even hfit
    obtain ⟨n, hn⟩ : ∃ n, EA.length = 2 * n := ⟨EA.length / 2, by omega⟩
    have HB : Hid (∀ e ∈ EA, 0 ≤ e ∧ e ≤ 1114112) := hEA.bounds hfit
    have HNF : Hid (Nf (hasP a) (btw EA)) := ⟨EA, n, hEA, hn, rfl⟩
    have HML : Hid ((btw EA).length = n) := btw_length n EA hn
    have hnl : n ≤ a.length := by omega
    clear hown3 hb3 hb1 hoka hfit hev hEA
    go_wp2_with fail
    refine (between_any _ EA n hn (by omega) HB.out _ hi3).mono ?_
    rintro e w6 ⟨v6, rfl, hown6, hb6⟩
    have hbw6 : Below w.heap.size w w6 := hbw3.trans (hb6.mono hbw3.size)
    have hi6 : SpansAt w6 v6 (btw EA) := SpansAt.own HML.out.symm hown6
    obtain ⟨p6, k6, rfl⟩ : ∃ p k, v6 = .slice p n k := by obtain ⟨p, k, e, _⟩ := hi6; exact ⟨p, k, by rw [e, HML.out]⟩
    clear hown6 hb6 hi3 hn hEAl
    go_wp2
    go_ret2
    exact ⟨⟨p6, k6, btw EA, 0, by rw [HML.out]; rfl, .inr ⟨HCA.out, HNF.out, by rw [HML.out]; exact hnl, rfl⟩, by rw [HML.out]; exact hi6⟩, hbw6⟩
  · have HX : Hid (chk a ≠ 0) := hca
    go_enter Tryd.func15, Tryd.ntmps15
    go_wp2_with fail
    refine (check_any _ a (by omega) _ hv).mono ?_
    rintro e w1 ⟨rfl, hb1⟩
    go_wp2
    go_ret2
    exact ⟨⟨none, 0, [], chk a, rfl, .inl ⟨HX.out, rfl, rfl⟩, SpansAt.nil _⟩, hb1⟩
end Go.Proofs.YtlgnnljleooenaaDoor
