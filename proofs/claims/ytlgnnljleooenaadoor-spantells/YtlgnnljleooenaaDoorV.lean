/- Plain facts: what is written is read, and what is read is told as itself. -/
import Derived.Test.YtlgnnljleooenaaDoorQ
namespace Go.Proofs.YtlgnnljleooenaaDoor
open Go.RowKit
set_option linter.unusedVariables false

theorem hexd_dig : ∀ d, d < 16 → dig (hexd d) = some (d : Int) := by
  intro d h
  unfold dig hexd
  by_cases h1 : d < 10
  · rw [if_pos h1, if_pos (by omega)]; congr 1; omega
  · rw [if_neg h1, if_neg (by omega), if_pos (by omega)]; congr 1; omega
theorem dig_hexd {c v : Int} (h : dig c = some v) : 0 ≤ v ∧ v < 16 ∧ c = hexd v.toNat := by
  rcases dig_cases c with ⟨hd, h2, h3⟩ | ⟨hd, h2, h3⟩ | ⟨hd, h2, h3⟩
  · rw [hd] at h; cases h
    refine ⟨by omega, by omega, ?_⟩
    unfold hexd; rw [if_pos (by omega)]; omega
  · rw [hd] at h; cases h
    refine ⟨by omega, by omega, ?_⟩
    unfold hexd; rw [if_neg (by omega)]; omega
  · rw [hd] at h; cases h
theorem hxf_succ (f n : Nat) : hxf (f + 1) n = if n < 16 then [hexd n] else hxf f (n / 16) ++ [hexd (n % 16)] := rfl
theorem hxf_more : ∀ f n, n < 16 ^ (f + 1) → hxf (f + 1) n = hxf f n := by
  intro f
  induction f with
  | zero => intro n h; rw [hxf_succ, if_pos (by simpa using h)]; rfl
  | succ f ih =>
    intro n h
    rw [hxf_succ (f + 1), hxf_succ f n]
    by_cases h1 : n < 16
    · rw [if_pos h1, if_pos h1]
    · rw [if_neg h1, if_neg h1, ih (n / 16) (by rw [Nat.pow_succ] at h; omega)]
theorem hx_small (n : Nat) (h : n < 16) : hx n = [hexd n] := by unfold hx; rw [hxf, if_pos h]
theorem hx_step (n d : Nat) (hn : 1 ≤ n) (hb : n < 16777216) (hd : d < 16) : hx (n * 16 + d) = hx n ++ [hexd d] := by
  unfold hx
  rw [hxf, if_neg (by omega), show (n * 16 + d) / 16 = n by omega, show (n * 16 + d) % 16 = d by omega]
  rw [hxf_more 7 n (by have : (16 : Nat) ^ (7 + 1) = 4294967296 := by decide
                       omega)]
theorem hxf_short : ∀ j f n, n < 16 ^ (j + 1) → (hxf f n).length ≤ j + 1 := by
  intro j
  induction j with
  | zero => intro f n h; cases f with
    | zero => simp [hxf]
    | succ f => rw [hxf, if_pos (by simpa using h)]; simp
  | succ j ih => intro f n h; cases f with
    | zero => simp [hxf]
    | succ f =>
      rw [hxf]; split
      · simp
      · have := ih f (n / 16) (by rw [Nat.pow_succ] at h; omega)
        simp; omega
def noDig (l : List Int) : Prop := l = [] ∨ ∃ c t, l = c :: t ∧ dig c = none
theorem numl_stop {g : Nat} {l : List Int} {k : Nat} {n : Int} (h : noDig l) : numl g l k n = (n, k) := by
  rcases h with rfl | ⟨c, t, rfl, hc⟩
  · cases g <;> rfl
  · cases g with
    | zero => rfl
    | succ g => rw [numl, hc]
theorem numl_hx : ∀ f n g (l : List Int), 1 ≤ n → n < 16 ^ (f + 1) → (hxf f n).length ≤ g → numl g (hxf f n ++ l) 0 0 = numl (g - (hxf f n).length) l (hxf f n).length (n : Int) := by
  intro f
  induction f with
  | zero =>
    intro n g l h1 h2 h3
    have h2' : n < 16 := by simpa using h2
    obtain ⟨g', rfl⟩ : ∃ g', g = g' + 1 := ⟨g - 1, by simp [hxf] at h3; omega⟩
    simp only [hxf, List.singleton_append, List.length_singleton, Nat.add_sub_cancel]
    rw [numl, hexd_dig n h2']
    simp
  | succ f ih =>
    intro n g l h1 h2 h3
    rw [hxf] at h3 ⊢
    by_cases h16 : n < 16
    · rw [if_pos h16] at h3 ⊢
      obtain ⟨g', rfl⟩ : ∃ g', g = g' + 1 := ⟨g - 1, by simp at h3; omega⟩
      simp only [List.singleton_append, List.length_singleton, Nat.add_sub_cancel]
      rw [numl, hexd_dig n h16]
      simp
    · rw [if_neg h16] at h3 ⊢
      have hl := (hxf_len f (n / 16)).1
      simp only [List.length_append, List.length_singleton] at h3 ⊢
      rw [List.append_assoc, ih (n / 16) g _ (by omega) (by rw [Nat.pow_succ] at h2; omega) (by omega)]
      obtain ⟨g', hg'⟩ : ∃ g', g - (hxf f (n / 16)).length = g' + 1 := ⟨g - (hxf f (n / 16)).length - 1, by omega⟩
      rw [hg', List.singleton_append, numl, hexd_dig _ (by omega)]
      dsimp only
      rw [if_neg (by omega), show g - ((hxf f (n / 16)).length + 1) = g' by omega]
      congr 1
      omega
theorem read_hx (n : Nat) (hn : n ≤ 1114111) (l : List Int) (hl : noDig l) : numl 6 (hx n ++ l) 0 0 = ((n : Int), (hx n).length) := by
  by_cases h0 : n = 0
  · subst h0
    have : hx 0 = [48] := by decide
    rw [this]
    show numl 6 (48 :: l) 0 0 = _
    rw [numl, show dig 48 = some 0 by decide]
    exact numl_stop hl
  · have h6 : (hxf 8 n).length ≤ 6 := hxf_short 5 8 n (Nat.lt_of_le_of_lt hn (by decide))
    have := numl_hx 8 n 6 l (by omega) (Nat.lt_of_le_of_lt hn (by decide)) h6
    unfold hx
    rw [this]
    exact numl_stop hl
theorem rdN_hx {n : Nat} {least : Int} {l : List Int} (hn : n ≤ 1114111) (hle : least ≤ (n : Int)) (hl : noDig l) : rdN (hx n ++ l) least = some ((n : Int), (hx n).length) := by
  have h := read_hx n hn l hl
  unfold rdN
  rw [h]
  have : 1 ≤ (hx n).length := (hxf_len 8 n).1
  rw [if_neg (by simp only; omega)]
/-- What is read as a number is a number as it is written. -/
theorem numl_back : ∀ f (l : List Int) (k0 : Nat) (n0 : Nat), 1 ≤ n0 → n0 < 16777216 → 1 ≤ k0 → f + k0 ≤ 6 → n0 < 16 ^ k0 → ∃ (n p : Nat), numl f l k0 (n0 : Int) = ((n : Int), k0 + p) ∧ p ≤ l.length ∧ hx n0 ++ l.take p = hx n := by
  intro f
  induction f with
  | zero => intro l k0 n0 h1 h2 h3 h4 h5; exact ⟨n0, 0, rfl, Nat.zero_le _, by simp⟩
  | succ f ih =>
    intro l k0 n0 h1 h2 h3 h4 h5
    rcases l with _ | ⟨c, t⟩
    · exact ⟨n0, 0, rfl, Nat.zero_le _, by simp⟩
    · rw [numl]
      cases hc : dig c with
      | none => exact ⟨n0, 0, rfl, Nat.zero_le _, by simp⟩
      | some v =>
        obtain ⟨v0, v1, hcv⟩ := dig_hexd hc
        obtain ⟨V, rfl⟩ : ∃ V : Nat, v = (V : Int) := ⟨v.toNat, by omega⟩
        rw [Int.toNat_natCast] at hcv
        dsimp only
        rw [if_neg (by omega)]
        have hp : n0 * 16 + V < 16 ^ (k0 + 1) := by rw [Nat.pow_succ]; omega
        have hk : (16 : Nat) ^ (k0 + 1) ≤ 16 ^ 6 := Nat.pow_le_pow_right (by decide) (by omega)
        have hbig : n0 * 16 + V < 16777216 := Nat.lt_of_lt_of_le hp hk
        have e : (n0 : Int) * 16 + (V : Int) = ((n0 * 16 + V : Nat) : Int) := by omega
        rw [e]
        obtain ⟨n, p, a, b, d⟩ := ih t (k0 + 1) (n0 * 16 + V) (by omega) hbig (by omega) (by omega) hp
        refine ⟨n, p + 1, by rw [a]; congr 1; omega, by simp; omega, ?_⟩
        rw [List.take_succ_cons, ← d, hx_step n0 V h1 h2 (by omega), hcv]
        simp
theorem read_back {l : List Int} {n : Int} {k : Nat} (h : numl 6 l 0 0 = (n, k)) (hk : k ≠ 0) : l.take k = hx n.toNat := by
  rcases l with _ | ⟨c, t⟩
  · simp [numl] at h; omega
  · rw [numl] at h
    cases hc : dig c with
    | none => rw [hc] at h; simp at h; omega
    | some v =>
      rw [hc] at h
      obtain ⟨v0, v1, hcv⟩ := dig_hexd hc
      obtain ⟨V, rfl⟩ : ∃ V : Nat, v = (V : Int) := ⟨v.toNat, by omega⟩
      rw [Int.toNat_natCast] at hcv
      dsimp only at h
      rw [if_neg (by omega)] at h
      have e : (0 : Int) * 16 + (V : Int) = (V : Int) := by omega
      rw [e] at h
      by_cases hV : V = 0
      · subst hV
        have : numl 5 t 1 ((0 : Nat) : Int) = (0, 1) := by
          rcases t with _ | ⟨d, t⟩
          · rfl
          · rw [numl]
            cases hd : dig d with
            | none => rfl
            | some u => exact if_pos ⟨by omega, rfl⟩
        rw [Nat.zero_add, this] at h
        cases h
        rw [hcv]; rfl
      · obtain ⟨m, p, a, b, d⟩ := numl_back 5 t 1 V (by omega) (by omega) (Nat.le_refl _) (by omega) (by omega)
        rw [Nat.zero_add, a] at h
        cases h
        rw [Int.toNat_natCast, ← d, Nat.add_comm 1 p, List.take_succ_cons, hx_small V (by omega), hcv]
        rfl

/-- Spans that rise, none next to another one, from least on. -/
def apart : Int → List Sp → Prop
  | _, [] => True
  | least, s :: t => least ≤ s.1 ∧ s.1 ≤ s.2 ∧ s.2 ≤ 1114111 ∧ apart (s.2 + 2) t
def tl (t : List Sp) : List Int := t.flatMap fun s => 44 :: txt1 s
theorem noDig_44 (l : List Int) : noDig (44 :: l) := .inr ⟨44, l, rfl, by decide⟩
theorem noDig_45 (l : List Int) : noDig (45 :: l) := .inr ⟨45, l, rfl, by decide⟩
theorem noDig_tl (t : List Sp) : noDig (tl t) := by
  rcases t with _ | ⟨s, t⟩
  · exact .inl rfl
  · exact noDig_44 _
theorem rdS_txt {s : Sp} {least : Int} {l : List Int} (h0 : 0 ≤ least) (h1 : least ≤ s.1) (h2 : s.1 ≤ s.2) (h3 : s.2 ≤ 1114111) (hl : l = [] ∨ ∃ t, l = 44 :: t) : rdS (txt1 s ++ l) least = (s, (txt1 s).length, true) := by
  obtain ⟨x, y⟩ := s
  dsimp only at h1 h2 h3
  have hnd : noDig l := by
    rcases hl with rfl | ⟨t, rfl⟩
    · exact .inl rfl
    · exact noDig_44 _
  obtain ⟨X, rfl⟩ : ∃ X : Nat, x = (X : Int) := ⟨x.toNat, by omega⟩
  obtain ⟨Y, rfl⟩ : ∃ Y : Nat, y = (Y : Int) := ⟨y.toNat, by omega⟩
  unfold txt1
  dsimp only
  rw [Int.toNat_natCast, Int.toNat_natCast]
  by_cases hxy : (Y : Int) = (X : Int)
  · rw [if_pos hxy, List.append_nil, hxy]
    unfold rdS
    rw [rdN_hx (by omega) h1 hnd]
    dsimp only
    rw [List.drop_left]
    rcases hl with rfl | ⟨t, rfl⟩
    · rfl
    · dsimp only
      rw [if_neg (by decide)]
  · rw [if_neg hxy, List.append_assoc, List.cons_append]
    unfold rdS
    rw [rdN_hx (by omega) h1 (noDig_45 _)]
    dsimp only
    rw [List.drop_left]
    dsimp only
    rw [if_pos rfl, rdN_hx (by omega) (by omega) hnd]
    simp only [List.length_append, List.length_cons]
    congr 2
    omega
theorem txt1_pos (s : Sp) : 1 ≤ (txt1 s).length := by
  unfold txt1; have := (hxf_len 8 s.1.toNat).1; rw [List.length_append]
  show 1 ≤ (hxf 8 s.1.toNat).length + _; omega
theorem prs_txt : ∀ (t : List Sp) (s : Sp) (f k : Nat) (least : Int) (acc : List Sp), 0 ≤ least → apart least (s :: t) → (txt1 s ++ tl t).length < f → acc.length + (t.length + 1) ≤ 1024 → prs f (txt1 s ++ tl t) k least acc = (acc ++ s :: t, 0, 0) := by
  intro t
  induction t with
  | nil =>
    intro s f k least acc h0 ha hf hl
    obtain ⟨f', rfl⟩ : ∃ f', f = f' + 1 := ⟨f - 1, by omega⟩
    obtain ⟨x, y⟩ := s
    have hr := rdS_txt (s := (x, y)) (l := tl []) h0 ha.1 ha.2.1 ha.2.2.1 (.inl rfl)
    exact prs_end hr (by rw [List.drop_left]; rfl)
  | cons s2 t ih =>
    intro s f k least acc h0 ha hf hl
    obtain ⟨f', rfl⟩ : ∃ f', f = f' + 1 := ⟨f - 1, by omega⟩
    obtain ⟨x, y⟩ := s
    have hr := rdS_txt (s := (x, y)) (l := tl (s2 :: t)) h0 ha.1 ha.2.1 ha.2.2.1 (.inr ⟨_, rfl⟩)
    have hd : (txt1 (x, y) ++ tl (s2 :: t)).drop (txt1 (x, y)).length = 44 :: (txt1 s2 ++ tl t) := by rw [List.drop_left]; rfl
    have hlen : (tl (s2 :: t)).length = (txt1 s2 ++ tl t).length + 1 := rfl
    have h1 := txt1_pos (x, y)
    rw [List.length_append] at hf
    simp only [List.length_cons] at hl
    rw [prs_go hr hd (by omega)]
    rw [ih s2 f' _ (y + 2) (acc ++ [(x, y)]) (by have := ha.1; have := ha.2.1; dsimp only at *; omega) ha.2.2.2 (by omega) (by simp; omega)]
    simp
theorem parse_txt (m : List Sp) (ha : apart 0 m) (hl : m.length ≤ 1024) : parse (txt m) = (m, 0, 0) := by
  rcases m with _ | ⟨s, t⟩
  · rfl
  · unfold parse
    have h1 := txt1_pos s
    have e : txt (s :: t) = txt1 s ++ tl t := rfl
    rw [e, if_neg (by rw [List.length_append]; omega), prs_txt t s _ 0 0 [] (Int.le_refl _) ha (by omega) (by simpa using hl)]
    rfl
theorem apart_btw : ∀ (n : Nat) (E : List Int) (e0 : Int), E.length = 2 * n → E.Pairwise (· < ·) → (∀ e ∈ E, e0 ≤ e ∧ e ≤ 1114112) → apart e0 (btw E) := by
  intro n
  induction n with
  | zero => intro E e0 h; obtain rfl := List.length_eq_zero_iff.1 h; intro _ _; trivial
  | succ n ih =>
    intro E e0 h hp hb
    rcases E with _ | ⟨a, _ | ⟨b, t⟩⟩
    · simp at h
    · simp at h; omega
    · rw [List.pairwise_cons, List.pairwise_cons] at hp
      have hab := hp.1 b (by simp)
      have ha := hb a (by simp)
      have hb' := hb b (by simp)
      refine ⟨ha.1, by dsimp only; omega, by dsimp only; omega, ?_⟩
      refine ih t _ (by simp at h; omega) hp.2.2 (fun e he => ?_)
      have h1 := hp.2.1 e he
      have h2 := hb e (by simp [he])
      dsimp only
      omega
theorem Nf.apart {f : Int → Bool} {l : List Sp} (h : Nf f l) (hf : Fits f) : apart 0 l := by
  obtain ⟨E, n, h1, h2, rfl⟩ := h
  exact apart_btw n E 0 h2 h1.1 (h1.bounds hf)
def unbtw : List Sp → List Int
  | [] => []
  | s :: t => s.1 :: (s.2 + 1) :: unbtw t
theorem btw_unbtw (l : List Sp) : btw (unbtw l) = l ∧ (unbtw l).length = 2 * l.length := by
  induction l with
  | nil => exact ⟨rfl, rfl⟩
  | cons s t ih =>
    obtain ⟨x, y⟩ := s
    refine ⟨?_, by simp only [unbtw, List.length_cons, ih.2]; omega⟩
    simp only [unbtw, btw, ih.1]
    rw [show y + 1 - 1 = y by omega]
theorem unbtw_rises : ∀ (l : List Sp) (least : Int), Go.Proofs.YtlgnnljleooenaaDoor.apart least l → (unbtw l).Pairwise (· < ·) ∧ ∀ e ∈ unbtw l, least ≤ e := by
  intro l
  induction l with
  | nil => intro least _; exact ⟨by simp [unbtw], by simp [unbtw]⟩
  | cons s t ih =>
    intro least h
    obtain ⟨h1, h2, h3, h4⟩ := h
    obtain ⟨g1, g2⟩ := ih _ h4
    refine ⟨?_, ?_⟩
    · simp only [unbtw]
      rw [List.pairwise_cons, List.pairwise_cons]
      refine ⟨fun e he => ?_, fun e he => ?_, g1⟩
      · rcases List.mem_cons.1 he with rfl | he
        · omega
        · have := g2 e he; omega
      · have := g2 e he; omega
    · intro e he
      simp only [unbtw] at he
      rcases List.mem_cons.1 he with rfl | he
      · exact h1
      · rcases List.mem_cons.1 he with rfl | he
        · omega
        · have := g2 e he; omega
theorem nf_apart {l : List Sp} {least : Int} (h : Go.Proofs.YtlgnnljleooenaaDoor.apart least l) : Nf (hasP l) l := by
  obtain ⟨h1, h2⟩ := btw_unbtw l
  obtain ⟨g1, _⟩ := unbtw_rises l least h
  refine ⟨unbtw l, l.length, ⟨g1, fun x => ?_⟩, h2, h1.symm⟩
  rw [← hasP_btw l.length (unbtw l) h2 g1, h1]
theorem apart_ok {l : List Sp} : ∀ {least : Int}, 0 ≤ least → Go.Proofs.YtlgnnljleooenaaDoor.apart least l → l.all ok1 = true := by
  induction l with
  | nil => intro _ _ _; rfl
  | cons s t ih =>
    intro least h0 h
    obtain ⟨h1, h2, h3, h4⟩ := h
    rw [List.all_cons, ih (by omega) h4]
    simp only [ok1, Bool.and_true, decide_eq_true_eq]
    omega
end Go.Proofs.YtlgnnljleooenaaDoor
