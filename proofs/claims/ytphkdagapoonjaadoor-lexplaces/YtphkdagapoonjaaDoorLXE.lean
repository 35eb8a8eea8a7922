/- Plain: the tokens that are read may be written, and are read again as themselves. (Stage 15.) -/
import Derived.Test.YtphkdagapoonjaaDoorLXD
namespace Go.Proofs.YtphkdagapoonjaaDoor.Lx
open Go.Proofs.YtphkdagapoonjaaDoor.U (nx enc encs scal Bytes)
set_option linter.unusedVariables false

theorem takeW_app {p : Int → Bool} : ∀ {g : List Int} (r : List Int), (∀ d ∈ g, p d = true) → (g ++ r).takeWhile p = g ++ r.takeWhile p ∧ (g ++ r).dropWhile p = r.dropWhile p
  | [], r, _ => ⟨rfl, rfl⟩
  | c :: g, r, h => by
    obtain ⟨a, b⟩ := takeW_app (g := g) r (fun d hd => h d (by simp [hd]))
    rw [List.cons_append, List.takeWhile_cons_of_pos (h c (by simp)), List.dropWhile_cons_of_pos (h c (by simp)), a, b]
    exact ⟨rfl, rfl⟩
theorem nen_high {c : Int} (h : 128 ≤ c) : nen c = true := by unfold nen en; simp; omega
theorem encs_takeW : ∀ (zs : List Int), (encs zs).takeWhile nen = encs (zs.takeWhile nen) ∧ (encs zs).dropWhile nen = encs (zs.dropWhile nen)
  | [] => ⟨rfl, rfl⟩
  | c :: zs => by
    obtain ⟨a, b⟩ := encs_takeW zs
    have hall : nen c = true → ∀ d ∈ enc c, nen d = true := fun h d hd => by
      by_cases hc : c < 128
      · rw [enc_low hc] at hd; rw [List.mem_singleton.1 hd]; exact h
      · exact nen_high (enc_high (c := c) (by omega) d hd)
    by_cases h : nen c = true
    · obtain ⟨x, y⟩ := takeW_app (g := enc c) (encs zs) (hall h)
      rw [encs_cons, x, y, List.takeWhile_cons_of_pos h, List.dropWhile_cons_of_pos h, a, b, encs_cons]
      exact ⟨rfl, rfl⟩
    · have hc : c < 128 := by
        rcases Int.lt_or_le c 128 with hc | hc
        · exact hc
        · exact absurd (nen_high hc) h
      rw [encs_cons, enc_low hc, List.cons_append, List.nil_append, List.takeWhile_cons_of_neg h, List.dropWhile_cons_of_neg h, List.takeWhile_cons_of_neg h, List.dropWhile_cons_of_neg h]
      exact ⟨rfl, by rw [encs_cons, enc_low hc]; rfl⟩
/-- No byte that may not be. -/
def Vz (zs : List Int) : Prop := ∀ c ∈ zs, (32 ≤ c ∨ c = 9) ∧ c ≠ 127
theorem sep_len (a b : Nat) : (sep a b).length ≤ 1 := by unfold sep; split <;> simp
theorem flat_len : ∀ (x : List Int), (x.flatMap qb).length ≤ 6 * x.length
  | [] => by simp
  | c :: x => by rw [List.flatMap_cons, List.length_append, List.length_cons]; have := qb_len c; have := flat_len x; omega
theorem tw_len {t : Tk} (g : good t) : (tw t).length ≤ 6 * t.x.length + 2 := by
  unfold tw
  have := flat_len t.x
  (repeat' split) <;> first | omega | (unfold qt; simp only [List.length_cons, List.length_append, List.length_nil]; omega) | (simp; done)
theorem dropW_len {p : Int → Bool} (l : List Int) : (l.dropWhile p).length + (l.takeWhile p).length = l.length := by
  have := congrArg List.length (List.takeWhile_append_dropWhile (p := p) (l := l))
  rw [List.length_append] at this
  omega
theorem dropW_mem {p : Int → Bool} {l : List Int} {c : Int} (h : c ∈ l.dropWhile p) : c ∈ l := by
  have := List.takeWhile_append_dropWhile (p := p) (l := l)
  rw [← this]
  exact List.mem_append_right _ h
/-- What is gone through of a line. -/
structure Rd (zs : List Int) (n : Nat) (ts : List Tk) : Prop where
  g : ∀ t ∈ ts, good t ∧ t.n = n
  l : ∀ last, (wr last ts).length ≤ 9 * (encs zs).length
theorem Rd.cons {zs zs' : List Int} {n : Nat} {ts : List Tk} {t : Tk} (r : Rd zs' n ts) (g : good t) (hn : t.n = n) (hl : t.x.length + (encs zs').length ≤ (encs zs).length) (h1 : (encs zs').length < (encs zs).length) : Rd zs n (t :: ts) := by
  refine ⟨fun x hx => (List.mem_cons.1 hx).elim (fun h => h ▸ ⟨g, hn⟩) (r.g x), fun last => ?_⟩
  rw [wr, List.length_append, List.length_append]
  have a := r.l t.k
  have b := tw_len g
  have c := sep_len last t.k
  omega
theorem ln_inv : ∀ (m : Nat) (zs : List Int) (f : Nat) (o : List Tk) (i n : Nat), zs.length ≤ m → Sc zs → Vz zs → (encs zs).length ≤ f → (lnF f o (encs zs) i n).2 = none → ∃ ts, (lnF f o (encs zs) i n).1 = o ++ ts ∧ Rd zs n ts
  | m, [], f, o, i, n, _, _, _, _, _ => ⟨[], by rw [show encs [] = [] from rfl, lnF_nil]; simp, fun t ht => (by cases ht), fun last => by rw [wr]; simp⟩
  | 0, c :: zs, f, o, i, n, hm, _, _, _, _ => by simp at hm
  | m + 1, c :: zs, f, o, i, n, hm, hs, hz, hf, h => by
    have hm' : zs.length ≤ m := by simpa using hm
    have hzt : Vz zs := fun x hx => hz x (by simp [hx])
    have hc := scal_bd (hs c (by simp))
    have hpos := (U.enc_len c).1
    have hle : (encs (c :: zs)).length = (enc c).length + (encs zs).length := by rw [encs_cons, List.length_append]
    by_cases hw : nen c = true
    · -- a word
      obtain ⟨t1, t2⟩ := encs_takeW (c :: zs)
      have hd := dropW_len (p := nen) (c :: zs)
      rw [List.takeWhile_cons_of_pos hw, List.length_cons, List.length_cons] at hd
      have hdl := dropW_len (p := nen) (encs (c :: zs))
      rw [t1, t2] at hdl
      have hne : 1 ≤ (encs ((c :: zs).takeWhile nen)).length := by rw [List.takeWhile_cons_of_pos hw, encs_cons, List.length_append]; omega
      have hsT : Sc ((c :: zs).takeWhile nen) := fun x hx => hs x (takeW_mem hx).2
      have hb := encs_bytes hsT
      have hwd : wd (encs ((c :: zs).takeWhile nen)) := by
        refine ⟨List.length_pos_iff.1 hne, EV.val ⟨_, hsT.all, rfl⟩, fun d hd => ?_⟩
        obtain ⟨e, he1, he2⟩ := List.mem_flatMap.1 (show d ∈ ((c :: zs).takeWhile nen).flatMap enc from hd)
        obtain ⟨p1, p2⟩ := takeW_mem he1
        by_cases hlo : e < 128
        · rw [enc_low hlo] at he2
          rw [List.mem_singleton.1 he2]
          have q := hz e p2
          have hen : en e = false := by unfold nen at p1; simpa using p1
          have := en_no hen
          exact ⟨hen, by omega, q.2⟩
        · have := enc_high (c := e) (by omega) d he2
          have hn := nen_high (c := d) this
          exact ⟨by unfold nen at hn; simpa using hn, by omega, by omega⟩
      obtain ⟨f, rfl⟩ : ∃ g, f = g + 1 := ⟨f - 1, by omega⟩
      have hstep : lnF (f + 1) o (encs (c :: zs)) i n = lnF f (o ++ [⟨1, encs ((c :: zs).takeWhile nen), n, i⟩]) (encs ((c :: zs).dropWhile nen)) (i + (encs ((c :: zs).takeWhile nen)).length) n := by
        cases he : encs (c :: zs) with
        | nil => rw [he] at hle; simp at hle; omega
        | cons a q =>
          have ha : nen a = true := by
            have : (encs (c :: zs)).takeWhile nen ≠ [] := by rw [t1]; exact List.length_pos_iff.1 hne
            rw [he] at this
            rcases hb' : nen a with _ | _
            · rw [List.takeWhile_cons_of_neg (by rw [hb']; simp)] at this; exact absurd rfl this
            · rfl
          have hen : en a = false := by unfold nen at ha; simpa using ha
          have hh := en_no hen
          rw [he] at t1 t2
          rw [lnF, if_neg hh.2.2.2.2.2, if_neg (by omega), if_neg hh.2.2.1, if_neg hh.2.2.2.1, if_neg hh.2.2.2.2.1, t1, t2]
      rw [hstep] at h ⊢
      obtain ⟨ts, a1, a2⟩ := ln_inv m ((c :: zs).dropWhile nen) f _ _ n (by omega) (fun x hx => hs x (dropW_mem hx)) (fun x hx => hz x (dropW_mem hx)) (by omega) h
      exact ⟨⟨1, encs ((c :: zs).takeWhile nen), n, i⟩ :: ts, by rw [a1]; simp, a2.cons ⟨hb, .inl ⟨rfl, hwd⟩⟩ rfl (by simp only; omega) (by omega)⟩
    · have hcl : c < 128 := by
        rcases Int.lt_or_le c 128 with hc | hc
        · exact hc
        · exact absurd (nen_high hc) hw
      have he : encs (c :: zs) = c :: encs zs := by rw [encs_cons, enc_low hcl]; rfl
      rw [he] at hf h hle ⊢
      rw [List.length_cons] at hf
      obtain ⟨f, rfl⟩ : ∃ g, f = g + 1 := ⟨f - 1, by omega⟩
      have hen : en c = true := by
        rcases h' : en c with _ | _
        · exact absurd (by unfold nen; rw [h']; rfl) hw
        · rfl
      have hcs : c = 32 ∨ c = 9 ∨ c = 44 ∨ c = 33 ∨ c = 34 ∨ c = 35 := by unfold en at hen; exact of_decide_eq_true hen
      have wk : ∀ {ts : List Tk}, Rd zs n ts → Rd (c :: zs) n ts := fun r => ⟨r.g, fun last => by have := r.l last; rw [he, List.length_cons]; omega⟩
      rw [lnF] at h ⊢
      by_cases h35 : c = 35
      · rw [if_pos h35]
        exact ⟨[], by simp, fun t ht => (by cases ht), fun last => by rw [wr]; simp⟩
      rw [if_neg h35] at h ⊢
      by_cases h32 : c = 32 ∨ c = 9
      · rw [if_pos h32] at h ⊢
        obtain ⟨ts, a1, a2⟩ := ln_inv m zs f o (i + 1) n hm' hs.tail hzt (by omega) h
        exact ⟨ts, a1, wk a2⟩
      rw [if_neg h32] at h ⊢
      by_cases h44 : c = 44
      · rw [if_pos h44] at h ⊢
        obtain ⟨ts, a1, a2⟩ := ln_inv m zs f (o ++ [⟨3, [], n, i⟩]) (i + 1) n hm' hs.tail hzt (by omega) h
        exact ⟨⟨3, [], n, i⟩ :: ts, by rw [a1]; simp, a2.cons ⟨fun b hb => (by cases hb), .inr (.inr ⟨.inl rfl, rfl⟩)⟩ rfl (by rw [he]; simp) (by rw [he]; simp)⟩
      rw [if_neg h44] at h ⊢
      by_cases h33 : c = 33
      · rw [if_pos h33] at h ⊢
        obtain ⟨ts, a1, a2⟩ := ln_inv m zs f (o ++ [⟨4, [], n, i⟩]) (i + 1) n hm' hs.tail hzt (by omega) h
        exact ⟨⟨4, [], n, i⟩ :: ts, by rw [a1]; simp, a2.cons ⟨fun b hb => (by cases hb), .inr (.inr ⟨.inr rfl, rfl⟩)⟩ rfl (by rw [he]; simp) (by rw [he]; simp)⟩
      rw [if_neg h33] at h ⊢
      have h34 : c = 34 := by omega
      rw [if_pos h34] at h ⊢
      by_cases hk : (tx ((encs zs).length + 1) [] (encs zs) 1).2.1 = 0
      · rw [if_pos hk] at h; cases h
      rw [if_neg hk] at h ⊢
      obtain ⟨y, k, zs', b1, b2, b3, b4, b5, b6, b7, b8⟩ := tx_inv zs.length zs ((encs zs).length + 1) [] 1 (Nat.le_refl _) hs.tail (by omega) hk
      rw [b1, b3, show 1 + k - 1 = k by omega, b6, List.nil_append] at h ⊢
      have hl' : (encs zs').length + k = (encs zs).length := by rw [← b6, List.length_drop]; omega
      have hz' : Vz zs' := by
        intro x hx
        by_cases hx8 : x < 128
        · have hxm : x ∈ encs zs := by
            apply List.mem_of_mem_drop (i := k)
            rw [b6]
            exact List.mem_flatMap.2 ⟨x, hx, by rw [enc_low hx8]; simp⟩
          obtain ⟨e, e1, e2⟩ := List.mem_flatMap.1 (show x ∈ zs.flatMap enc from hxm)
          by_cases he8 : e < 128
          · rw [enc_low he8] at e2
            rw [List.mem_singleton.1 e2]; exact hzt e e1
          · have := enc_high (c := e) (by omega) x e2; omega
        · exact ⟨.inl (by omega), by omega⟩
      obtain ⟨ts, a1, a2⟩ := ln_inv m zs' f (o ++ [⟨2, y, n, i⟩]) (i + (1 + k)) n (by omega) b7 hz' (by omega) h
      have hby : Bytes y := by
        obtain ⟨ws, h1, h2⟩ := b2
        rw [h2]; exact encs_bytes (List.all_eq_true.1 h1)
      exact ⟨⟨2, y, n, i⟩ :: ts, by rw [a1]; simp, a2.cons ⟨hby, .inr (.inl ⟨rfl, b2.val⟩)⟩ rfl (by rw [he, List.length_cons]; simp only; omega) (by rw [he, List.length_cons]; omega)⟩
/-- A line without a fault: no tokens, or some that may stand in one, and an end. -/
theorem line_inv {l : List Int} (hb : Bytes l) (n : Nat) (h : (line l n).2.1 = 0) : (line l n).1 = [] ∨ ∃ ts, ts ≠ [] ∧ (line l n).1 = ts ++ [⟨5, [], n, l.length⟩] ∧ (∀ t ∈ ts, good t ∧ t.n = n) ∧ (∀ last, (wr last ts).length ≤ 9 * l.length) ∧ (line l n).2 = (0, 0, 0) := by
  unfold line at h ⊢
  cases h1 : bd l with
  | some k => rw [h1] at h; simp at h
  | none =>
    rw [h1] at h
    simp only at h ⊢
    cases h2 : pb l with
    | some k => rw [h2] at h; simp at h
    | none =>
      rw [h2] at h
      simp only at h ⊢
      have hv : U.val l = true := (bd_none hb).1 h1
      have hz0 := U.dec_scal l.length l (Nat.le_refl _) hb
      have hen := U.clean_of_val l.length l (Nat.le_refl _) hb hv
      have hpb : ∀ d ∈ l, (32 ≤ d ∨ d = 9) ∧ d ≠ 127 := fun d hd => by
        unfold pb at h2
        rw [List.findIdx?_eq_none_iff] at h2
        have := h2 d hd
        simp at this; omega
      have hz : Vz (U.dec l) := fun c hc => by
        by_cases hc8 : c < 128
        · refine hpb c ?_
          rw [← hen]
          exact List.mem_flatMap.2 ⟨c, hc, by rw [enc_low hc8]; simp⟩
        · exact ⟨.inl (by omega), by omega⟩
      rcases hq : lnF l.length [] l 0 n with ⟨o, x⟩
      rw [hq] at h
      cases x with
      | some k => simp at h
      | none =>
        simp only
        have hi := ln_inv (U.dec l).length (U.dec l) l.length [] 0 n (Nat.le_refl _) (List.all_eq_true.1 hz0) hz (by rw [hen]; exact Nat.le_refl _) (by rw [hen, hq])
        rw [hen, hq] at hi
        obtain ⟨ts, a1, a2⟩ := hi
        simp only [List.nil_append] at a1
        subst a1
        by_cases ho : o.length = 0
        · left; rw [if_pos ho]
        · right
          refine ⟨o, fun e => ho (by rw [e]; rfl), by rw [if_neg ho], a2.g, fun last => ?_, trivial⟩
          have := a2.l last
          rw [hen] at this; exact this
theorem ok_line : ∀ (ts : List Tk) (last : Nat) (e : Tk) (r : List Tk), (∀ t ∈ ts, good t) → e.k = 5 → e.x = [] → (last = 5 → ts ≠ []) → ok 5 r → ok last (ts ++ e :: r)
  | [], last, e, r, _, he, hx, hl, hr => ⟨.inr (.inr ⟨.inr (.inr ⟨he, fun h => hl h rfl⟩), hx⟩), by rw [he]; exact hr⟩
  | t :: ts, last, e, r, hg, he, hx, hl, hr => by
    have g := (hg t (by simp)).2
    refine ⟨?_, ok_line ts t.k e r (fun x hx => hg x (by simp [hx])) he hx (fun h => ?_) hr⟩
    · rcases g with g | g | ⟨g, gx⟩
      · exact .inl g
      · exact .inr (.inl g)
      · exact .inr (.inr ⟨by omega, gx⟩)
    · rcases g with g | g | g <;> omega
theorem fl_len {s : List Int} (hs : s ≠ []) : (fl s).length + ((s.dropWhile no10).drop 1).length ≤ s.length ∧ ((s.dropWhile no10).drop 1).length < s.length ∧ (∀ d ∈ fl s, d ∈ s) ∧ (∀ d ∈ (s.dropWhile no10).drop 1, d ∈ s) := by
  have h := dropW_len (p := no10) s
  have hp := List.length_pos_iff.2 hs
  refine ⟨?_, ?_, fun d hd => ?_, fun d hd => dropW_mem (List.mem_of_mem_drop hd)⟩
  · unfold fl strip
    by_cases e : s.dropWhile no10 = []
    · rw [if_pos e, e]; simp
    · rw [if_neg e, List.length_drop]
      split
      · rw [List.length_dropLast]; omega
      · omega
  · rw [List.length_drop]
    by_cases e : s.dropWhile no10 = []
    · rw [e]; simp; omega
    · have := List.length_pos_iff.2 e; omega
  · unfold fl strip at hd
    (repeat' split at hd)
    · exact hd
    · exact (takeW_mem ((List.dropLast_sublist _).mem hd)).2
    · exact (takeW_mem hd).2
theorem lexF_inv : ∀ (f : Nat) (s : List Int) (o : List Tk) (n : Nat), Bytes s → s.length ≤ f → (lexF f o s n).2.1 = 0 → ∃ r, lexF f o s n = (o ++ r, 0, 0, 0) ∧ BT r ∧ ok 5 r ∧ (wr 5 r).length ≤ 10 * s.length
  | 0, s, o, n, hb, hf, h => ⟨[], by simp [lexF], fun t ht => (by cases ht), rfl, by simp [wr]⟩
  | f + 1, s, o, n, hb, hf, h => by
    by_cases hs : s = []
    · rw [lexF, if_pos hs]
      exact ⟨[], by simp, fun t ht => (by cases ht), rfl, by simp [wr]⟩
    · rw [lexF, if_neg hs] at h ⊢
      obtain ⟨l1, l2, l3, l4⟩ := fl_len hs
      by_cases hl : (line (fl s) n).2.1 ≠ 0
      · rw [if_pos hl] at h; exact absurd h hl
      · rw [if_neg hl] at h ⊢
        obtain ⟨r, a1, a2, a3, a4⟩ := lexF_inv f _ _ (n + 1) (fun d hd => hb d (l4 d hd)) (by omega) h
        rcases line_inv (fun d hd => hb d (l3 d hd)) n (Classical.byContradiction hl) with h0 | ⟨ts, b1, b2, b3, b4, _⟩
        · exact ⟨r, by rw [a1, h0]; simp, a2, a3, by omega⟩
        · refine ⟨ts ++ ⟨5, [], n, (fl s).length⟩ :: r, by rw [a1, b2]; simp, ?_, ok_line ts 5 _ r (fun t ht => (b3 t ht).1) rfl rfl (fun _ => b1) a3, ?_⟩
          · intro t ht
            rcases List.mem_append.1 ht with ht | ht
            · exact (b3 t ht).1.1
            · rcases List.mem_cons.1 ht with rfl | ht
              · exact fun b hb => (by cases hb)
              · exact a2 t ht
          · rw [wr_app, wr]
            have c1 := b4 5
            have e1 : (sep (lk 5 ts) 5).length = 0 := by unfold sep; rw [if_neg (by omega)]; rfl
            have e2 : (tw ⟨5, [], n, (fl s).length⟩).length = 1 := rfl
            simp only [List.length_append]
            rw [e1, e2]
            have hne : 1 ≤ (fl s).length := by
              cases ts with
              | nil => exact absurd rfl b1
              | cons t ts =>
                have := tw_pos (b3 t (by simp)).1
                rw [wr, List.length_append, List.length_append] at c1
                omega
            have c2 : (wr 5 ts).length ≤ 9 * (fl s).length := c1
            show (wr 5 ts).length + (0 + 1 + (wr 5 r).length) ≤ _
            omega
/-- What is read may be written. -/
theorem lex_inv {s : List Int} (hb : Bytes s) (h : (lex s).2.1 = 0) : ∃ r, lex s = (r, 0, 0, 0) ∧ BT r ∧ ok 5 r ∧ (wr 5 r).length ≤ 10 * s.length := by
  unfold lex at h ⊢
  by_cases hl : 65536 < s.length
  · rw [if_pos hl] at h; simp at h
  · rw [if_neg hl] at h ⊢
    obtain ⟨r, a, b⟩ := lexF_inv s.length s [] 1 hb (Nat.le_refl _) h
    exact ⟨r, by rw [a]; simp, b⟩
end Go.Proofs.YtphkdagapoonjaaDoor.Lx
