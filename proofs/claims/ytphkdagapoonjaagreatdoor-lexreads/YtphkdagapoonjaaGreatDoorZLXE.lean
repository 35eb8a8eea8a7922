/- Plain: the tokens that are read may be written, and are read again as themselves; Plain: where a token stands, there it is read; Plain: where a token stands in a text, there it is read. -/
import Derived.Test.YtphkdagapoonjaaGreatDoorZLXC
namespace Go.Proofs.YtphkdagapoonjaaGreatDoor.Lx
open Go.Proofs.YtphkdagapoonjaaGreatDoor.U (nx enc encs scal Bytes)
set_option linter.unusedVariables false

theorem takeW_app {p : Int → Bool} : ∀ {g : List Int} (r : List Int), (∀ d ∈ g, p d = true) → (g ++ r).takeWhile p = g ++ r.takeWhile p ∧ (g ++ r).dropWhile p = r.dropWhile p
  | [], r, _ => ⟨rfl, rfl⟩
  | c :: g, r, h => by
    obtain ⟨a, b⟩ := takeW_app (g := g) r (fun d hd => h d (by simp [hd]))
    rw [List.cons_append, List.takeWhile_cons_of_pos (h c (by simp)), List.dropWhile_cons_of_pos (h c (by simp)), a, b]
    exact ⟨rfl, rfl⟩
theorem nen_high {c : Int} (h : 128 ≤ c) : nen c = true := by unfold nen en; simp; omega
theorem encs_takeW : ∀ (zs : List Int), (encs zs).takeWhile nen = encs (zs.takeWhile nen) ∧ (encs zs).dropWhile nen = encs (zs.dropWhile nen)
  | [] => ⟨rfl, rfl⟩
  | c :: zs => by
    obtain ⟨a, b⟩ := encs_takeW zs
    have hall : nen c = true → ∀ d ∈ enc c, nen d = true := fun h d hd => by
      by_cases hc : c < 128
      · rw [enc_low hc] at hd; rw [List.mem_singleton.1 hd]; exact h
      · exact nen_high (enc_high (c := c) (by omega) d hd)
    by_cases h : nen c = true
    · obtain ⟨x, y⟩ := takeW_app (g := enc c) (encs zs) (hall h)
      rw [encs_cons, x, y, List.takeWhile_cons_of_pos h, List.dropWhile_cons_of_pos h, a, b, encs_cons]
      exact ⟨rfl, rfl⟩
    · have hc : c < 128 := by
        rcases Int.lt_or_le c 128 with hc | hc
        · exact hc
        · exact absurd (nen_high hc) h
      rw [encs_cons, enc_low hc, List.cons_append, List.nil_append, List.takeWhile_cons_of_neg h, List.dropWhile_cons_of_neg h, List.takeWhile_cons_of_neg h, List.dropWhile_cons_of_neg h]
      exact ⟨rfl, by rw [encs_cons, enc_low hc]; rfl⟩
/-- No byte that may not be. -/
def Vz (zs : List Int) : Prop := ∀ c ∈ zs, (32 ≤ c ∨ c = 9) ∧ c ≠ 127
theorem sep_len (a b : Nat) : (sep a b).length ≤ 1 := by unfold sep; split <;> simp
theorem flat_len : ∀ (x : List Int), (x.flatMap qb).length ≤ 6 * x.length
  | [] => by simp
  | c :: x => by rw [List.flatMap_cons, List.length_append, List.length_cons]; have := qb_len c; have := flat_len x; omega
theorem tw_len {t : Tk} (g : good t) : (tw t).length ≤ 6 * t.x.length + 2 := by
  unfold tw
  have := flat_len t.x
  (repeat' split) <;> first | omega | (unfold qt; simp only [List.length_cons, List.length_append, List.length_nil]; omega) | (simp; done)
theorem dropW_len {p : Int → Bool} (l : List Int) : (l.dropWhile p).length + (l.takeWhile p).length = l.length := by
  have := congrArg List.length (List.takeWhile_append_dropWhile (p := p) (l := l))
  rw [List.length_append] at this
  omega
theorem dropW_mem {p : Int → Bool} {l : List Int} {c : Int} (h : c ∈ l.dropWhile p) : c ∈ l := by
  have := List.takeWhile_append_dropWhile (p := p) (l := l)
  rw [← this]
  exact List.mem_append_right _ h
/-- What is gone through of a line. -/
structure Rd (zs : List Int) (n : Nat) (ts : List Tk) : Prop where
  g : ∀ t ∈ ts, good t ∧ t.n = n
  l : ∀ last, (wr last ts).length ≤ 9 * (encs zs).length
theorem Rd.cons {zs zs' : List Int} {n : Nat} {ts : List Tk} {t : Tk} (r : Rd zs' n ts) (g : good t) (hn : t.n = n) (hl : t.x.length + (encs zs').length ≤ (encs zs).length) (h1 : (encs zs').length < (encs zs).length) : Rd zs n (t :: ts) := by
  refine ⟨fun x hx => (List.mem_cons.1 hx).elim (fun h => h ▸ ⟨g, hn⟩) (r.g x), fun last => ?_⟩
  rw [wr, List.length_append, List.length_append]
  have a := r.l t.k
  have b := tw_len g
  have c := sep_len last t.k
  omega
theorem ln_inv : ∀ (m : Nat) (zs : List Int) (f : Nat) (o : List Tk) (i n : Nat), zs.length ≤ m → Sc zs → Vz zs → (encs zs).length ≤ f → (lnF f o (encs zs) i n).2 = none → ∃ ts, (lnF f o (encs zs) i n).1 = o ++ ts ∧ Rd zs n ts
  | m, [], f, o, i, n, _, _, _, _, _ => ⟨[], by rw [show encs [] = [] from rfl, lnF_nil]; simp, fun t ht => (by cases ht), fun last => by rw [wr]; simp⟩
  | 0, c :: zs, f, o, i, n, hm, _, _, _, _ => by simp at hm
  | m + 1, c :: zs, f, o, i, n, hm, hs, hz, hf, h => by
    have hm' : zs.length ≤ m := by simpa using hm
    have hzt : Vz zs := fun x hx => hz x (by simp [hx])
    have hc := scal_bd (hs c (by simp))
    have hpos := (U.enc_len c).1
    have hle : (encs (c :: zs)).length = (enc c).length + (encs zs).length := by rw [encs_cons, List.length_append]
    by_cases hw : nen c = true
    · -- a word
      obtain ⟨t1, t2⟩ := encs_takeW (c :: zs)
      have hd := dropW_len (p := nen) (c :: zs)
      rw [List.takeWhile_cons_of_pos hw, List.length_cons, List.length_cons] at hd
      have hdl := dropW_len (p := nen) (encs (c :: zs))
      rw [t1, t2] at hdl
      have hne : 1 ≤ (encs ((c :: zs).takeWhile nen)).length := by rw [List.takeWhile_cons_of_pos hw, encs_cons, List.length_append]; omega
      have hsT : Sc ((c :: zs).takeWhile nen) := fun x hx => hs x (takeW_mem hx).2
      have hb := encs_bytes hsT
      have hwd : wd (encs ((c :: zs).takeWhile nen)) := by
        refine ⟨List.length_pos_iff.1 hne, EV.val ⟨_, hsT.all, rfl⟩, fun d hd => ?_⟩
        obtain ⟨e, he1, he2⟩ := List.mem_flatMap.1 (show d ∈ ((c :: zs).takeWhile nen).flatMap enc from hd)
        obtain ⟨p1, p2⟩ := takeW_mem he1
        by_cases hlo : e < 128
        · rw [enc_low hlo] at he2
          rw [List.mem_singleton.1 he2]
          have q := hz e p2
          have hen : en e = false := by unfold nen at p1; simpa using p1
          have := en_no hen
          exact ⟨hen, by omega, q.2⟩
        · have := enc_high (c := e) (by omega) d he2
          have hn := nen_high (c := d) this
          exact ⟨by unfold nen at hn; simpa using hn, by omega, by omega⟩
      obtain ⟨f, rfl⟩ : ∃ g, f = g + 1 := ⟨f - 1, by omega⟩
      have hstep : lnF (f + 1) o (encs (c :: zs)) i n = lnF f (o ++ [⟨1, encs ((c :: zs).takeWhile nen), n, i⟩]) (encs ((c :: zs).dropWhile nen)) (i + (encs ((c :: zs).takeWhile nen)).length) n := by
        cases he : encs (c :: zs) with
        | nil => rw [he] at hle; simp at hle; omega
        | cons a q =>
          have ha : nen a = true := by
            have : (encs (c :: zs)).takeWhile nen ≠ [] := by rw [t1]; exact List.length_pos_iff.1 hne
            rw [he] at this
            rcases hb' : nen a with _ | _
            · rw [List.takeWhile_cons_of_neg (by rw [hb']; simp)] at this; exact absurd rfl this
            · rfl
          have hen : en a = false := by unfold nen at ha; simpa using ha
          have hh := en_no hen
          rw [he] at t1 t2
          rw [lnF, if_neg hh.2.2.2.2.2, if_neg (by omega), if_neg hh.2.2.1, if_neg hh.2.2.2.1, if_neg hh.2.2.2.2.1, t1, t2]
      rw [hstep] at h ⊢
      obtain ⟨ts, a1, a2⟩ := ln_inv m ((c :: zs).dropWhile nen) f _ _ n (by omega) (fun x hx => hs x (dropW_mem hx)) (fun x hx => hz x (dropW_mem hx)) (by omega) h
      exact ⟨⟨1, encs ((c :: zs).takeWhile nen), n, i⟩ :: ts, by rw [a1]; simp, a2.cons ⟨hb, .inl ⟨rfl, hwd⟩⟩ rfl (by simp only; omega) (by omega)⟩
    · have hcl : c < 128 := by
        rcases Int.lt_or_le c 128 with hc | hc
        · exact hc
        · exact absurd (nen_high hc) hw
      have he : encs (c :: zs) = c :: encs zs := by rw [encs_cons, enc_low hcl]; rfl
      rw [he] at hf h hle ⊢
      rw [List.length_cons] at hf
      obtain ⟨f, rfl⟩ : ∃ g, f = g + 1 := ⟨f - 1, by omega⟩
      have hen : en c = true := by
        rcases h' : en c with _ | _
        · exact absurd (by unfold nen; rw [h']; rfl) hw
        · rfl
      have hcs : c = 32 ∨ c = 9 ∨ c = 44 ∨ c = 33 ∨ c = 34 ∨ c = 35 := by unfold en at hen; exact of_decide_eq_true hen
      have wk : ∀ {ts : List Tk}, Rd zs n ts → Rd (c :: zs) n ts := fun r => ⟨r.g, fun last => by have := r.l last; rw [he, List.length_cons]; omega⟩
      rw [lnF] at h ⊢
      by_cases h35 : c = 35
      · rw [if_pos h35]
        exact ⟨[], by simp, fun t ht => (by cases ht), fun last => by rw [wr]; simp⟩
      rw [if_neg h35] at h ⊢
      by_cases h32 : c = 32 ∨ c = 9
      · rw [if_pos h32] at h ⊢
        obtain ⟨ts, a1, a2⟩ := ln_inv m zs f o (i + 1) n hm' hs.tail hzt (by omega) h
        exact ⟨ts, a1, wk a2⟩
      rw [if_neg h32] at h ⊢
      by_cases h44 : c = 44
      · rw [if_pos h44] at h ⊢
        obtain ⟨ts, a1, a2⟩ := ln_inv m zs f (o ++ [⟨3, [], n, i⟩]) (i + 1) n hm' hs.tail hzt (by omega) h
        exact ⟨⟨3, [], n, i⟩ :: ts, by rw [a1]; simp, a2.cons ⟨fun b hb => (by cases hb), .inr (.inr ⟨.inl rfl, rfl⟩)⟩ rfl (by rw [he]; simp) (by rw [he]; simp)⟩
      rw [if_neg h44] at h ⊢
      by_cases h33 : c = 33
      · rw [if_pos h33] at h ⊢
        obtain ⟨ts, a1, a2⟩ := ln_inv m zs f (o ++ [⟨4, [], n, i⟩]) (i + 1) n hm' hs.tail hzt (by omega) h
        exact ⟨⟨4, [], n, i⟩ :: ts, by rw [a1]; simp, a2.cons ⟨fun b hb => (by cases hb), .inr (.inr ⟨.inr rfl, rfl⟩)⟩ rfl (by rw [he]; simp) (by rw [he]; simp)⟩
      rw [if_neg h33] at h ⊢
      have h34 : c = 34 := by omega
      rw [if_pos h34] at h ⊢
      by_cases hk : (tx ((encs zs).length + 1) [] (encs zs) 1).2.1 = 0
      · rw [if_pos hk] at h; cases h
      rw [if_neg hk] at h ⊢
      obtain ⟨y, k, zs', b1, b2, b3, b4, b5, b6, b7, b8⟩ := tx_inv zs.length zs ((encs zs).length + 1) [] 1 (Nat.le_refl _) hs.tail (by omega) hk
      rw [b1, b3, show 1 + k - 1 = k by omega, b6, List.nil_append] at h ⊢
      have hl' : (encs zs').length + k = (encs zs).length := by rw [← b6, List.length_drop]; omega
      have hz' : Vz zs' := by
        intro x hx
        by_cases hx8 : x < 128
        · have hxm : x ∈ encs zs := by
            apply List.mem_of_mem_drop (i := k)
            rw [b6]
            exact List.mem_flatMap.2 ⟨x, hx, by rw [enc_low hx8]; simp⟩
          obtain ⟨e, e1, e2⟩ := List.mem_flatMap.1 (show x ∈ zs.flatMap enc from hxm)
          by_cases he8 : e < 128
          · rw [enc_low he8] at e2
            rw [List.mem_singleton.1 e2]; exact hzt e e1
          · have := enc_high (c := e) (by omega) x e2; omega
        · exact ⟨.inl (by omega), by omega⟩
      obtain ⟨ts, a1, a2⟩ := ln_inv m zs' f (o ++ [⟨2, y, n, i⟩]) (i + (1 + k)) n (by omega) b7 hz' (by omega) h
      have hby : Bytes y := by
        obtain ⟨ws, h1, h2⟩ := b2
        rw [h2]; exact encs_bytes (List.all_eq_true.1 h1)
      exact ⟨⟨2, y, n, i⟩ :: ts, by rw [a1]; simp, a2.cons ⟨hby, .inr (.inl ⟨rfl, b2.val⟩)⟩ rfl (by rw [he, List.length_cons]; simp only; omega) (by rw [he, List.length_cons]; omega)⟩
/-- A line without a fault: no tokens, or some that may stand in one, and an end. -/
theorem line_inv {l : List Int} (hb : Bytes l) (n : Nat) (h : (line l n).2.1 = 0) : (line l n).1 = [] ∨ ∃ ts, ts ≠ [] ∧ (line l n).1 = ts ++ [⟨5, [], n, l.length⟩] ∧ (∀ t ∈ ts, good t ∧ t.n = n) ∧ (∀ last, (wr last ts).length ≤ 9 * l.length) ∧ (line l n).2 = (0, 0, 0) := by
  unfold line at h ⊢
  cases h1 : bd l with
  | some k => rw [h1] at h; simp at h
  | none =>
    rw [h1] at h
    simp only at h ⊢
    cases h2 : pb l with
    | some k => rw [h2] at h; simp at h
    | none =>
      rw [h2] at h
      simp only at h ⊢
      have hv : U.val l = true := (bd_none hb).1 h1
      have hz0 := U.dec_scal l.length l (Nat.le_refl _) hb
      have hen := U.clean_of_val l.length l (Nat.le_refl _) hb hv
      have hpb : ∀ d ∈ l, (32 ≤ d ∨ d = 9) ∧ d ≠ 127 := fun d hd => by
        unfold pb at h2
        rw [List.findIdx?_eq_none_iff] at h2
        have := h2 d hd
        simp at this; omega
      have hz : Vz (U.dec l) := fun c hc => by
        by_cases hc8 : c < 128
        · refine hpb c ?_
          rw [← hen]
          exact List.mem_flatMap.2 ⟨c, hc, by rw [enc_low hc8]; simp⟩
        · exact ⟨.inl (by omega), by omega⟩
      rcases hq : lnF l.length [] l 0 n with ⟨o, x⟩
      rw [hq] at h
      cases x with
      | some k => simp at h
      | none =>
        simp only
        have hi := ln_inv (U.dec l).length (U.dec l) l.length [] 0 n (Nat.le_refl _) (List.all_eq_true.1 hz0) hz (by rw [hen]; exact Nat.le_refl _) (by rw [hen, hq])
        rw [hen, hq] at hi
        obtain ⟨ts, a1, a2⟩ := hi
        simp only [List.nil_append] at a1
        subst a1
        by_cases ho : o.length = 0
        · left; rw [if_pos ho]
        · right
          refine ⟨o, fun e => ho (by rw [e]; rfl), by rw [if_neg ho], a2.g, fun last => ?_, trivial⟩
          have := a2.l last
          rw [hen] at this; exact this
theorem ok_line : ∀ (ts : List Tk) (last : Nat) (e : Tk) (r : List Tk), (∀ t ∈ ts, good t) → e.k = 5 → e.x = [] → (last = 5 → ts ≠ []) → ok 5 r → ok last (ts ++ e :: r)
  | [], last, e, r, _, he, hx, hl, hr => ⟨.inr (.inr ⟨.inr (.inr ⟨he, fun h => hl h rfl⟩), hx⟩), by rw [he]; exact hr⟩
  | t :: ts, last, e, r, hg, he, hx, hl, hr => by
    have g := (hg t (by simp)).2
    refine ⟨?_, ok_line ts t.k e r (fun x hx => hg x (by simp [hx])) he hx (fun h => ?_) hr⟩
    · rcases g with g | g | ⟨g, gx⟩
      · exact .inl g
      · exact .inr (.inl g)
      · exact .inr (.inr ⟨by omega, gx⟩)
    · rcases g with g | g | g <;> omega
theorem fl_len {s : List Int} (hs : s ≠ []) : (fl s).length + ((s.dropWhile no10).drop 1).length ≤ s.length ∧ ((s.dropWhile no10).drop 1).length < s.length ∧ (∀ d ∈ fl s, d ∈ s) ∧ (∀ d ∈ (s.dropWhile no10).drop 1, d ∈ s) := by
  have h := dropW_len (p := no10) s
  have hp := List.length_pos_iff.2 hs
  refine ⟨?_, ?_, fun d hd => ?_, fun d hd => dropW_mem (List.mem_of_mem_drop hd)⟩
  · unfold fl strip
    by_cases e : s.dropWhile no10 = []
    · rw [if_pos e, e]; simp
    · rw [if_neg e, List.length_drop]
      split
      · rw [List.length_dropLast]; omega
      · omega
  · rw [List.length_drop]
    by_cases e : s.dropWhile no10 = []
    · rw [e]; simp; omega
    · have := List.length_pos_iff.2 e; omega
  · unfold fl strip at hd
    (repeat' split at hd)
    · exact hd
    · exact (takeW_mem ((List.dropLast_sublist _).mem hd)).2
    · exact (takeW_mem hd).2
theorem lexF_inv : ∀ (f : Nat) (s : List Int) (o : List Tk) (n : Nat), Bytes s → s.length ≤ f → (lexF f o s n).2.1 = 0 → ∃ r, lexF f o s n = (o ++ r, 0, 0, 0) ∧ BT r ∧ ok 5 r ∧ (wr 5 r).length ≤ 10 * s.length
  | 0, s, o, n, hb, hf, h => ⟨[], by simp [lexF], fun t ht => (by cases ht), rfl, by simp [wr]⟩
  | f + 1, s, o, n, hb, hf, h => by
    by_cases hs : s = []
    · rw [lexF, if_pos hs]
      exact ⟨[], by simp, fun t ht => (by cases ht), rfl, by simp [wr]⟩
    · rw [lexF, if_neg hs] at h ⊢
      obtain ⟨l1, l2, l3, l4⟩ := fl_len hs
      by_cases hl : (line (fl s) n).2.1 ≠ 0
      · rw [if_pos hl] at h; exact absurd h hl
      · rw [if_neg hl] at h ⊢
        obtain ⟨r, a1, a2, a3, a4⟩ := lexF_inv f _ _ (n + 1) (fun d hd => hb d (l4 d hd)) (by omega) h
        rcases line_inv (fun d hd => hb d (l3 d hd)) n (Classical.byContradiction hl) with h0 | ⟨ts, b1, b2, b3, b4, _⟩
        · exact ⟨r, by rw [a1, h0]; simp, a2, a3, by omega⟩
        · refine ⟨ts ++ ⟨5, [], n, (fl s).length⟩ :: r, by rw [a1, b2]; simp, ?_, ok_line ts 5 _ r (fun t ht => (b3 t ht).1) rfl rfl (fun _ => b1) a3, ?_⟩
          · intro t ht
            rcases List.mem_append.1 ht with ht | ht
            · exact (b3 t ht).1.1
            · rcases List.mem_cons.1 ht with rfl | ht
              · exact fun b hb => (by cases hb)
              · exact a2 t ht
          · rw [wr_app, wr]
            have c1 := b4 5
            have e1 : (sep (lk 5 ts) 5).length = 0 := by unfold sep; rw [if_neg (by omega)]; rfl
            have e2 : (tw ⟨5, [], n, (fl s).length⟩).length = 1 := rfl
            simp only [List.length_append]
            rw [e1, e2]
            have hne : 1 ≤ (fl s).length := by
              cases ts with
              | nil => exact absurd rfl b1
              | cons t ts =>
                have := tw_pos (b3 t (by simp)).1
                rw [wr, List.length_append, List.length_append] at c1
                omega
            have c2 : (wr 5 ts).length ≤ 9 * (fl s).length := c1
            show (wr 5 ts).length + (0 + 1 + (wr 5 r).length) ≤ _
            omega
/-- What is read may be written. -/
theorem lex_inv {s : List Int} (hb : Bytes s) (h : (lex s).2.1 = 0) : ∃ r, lex s = (r, 0, 0, 0) ∧ BT r ∧ ok 5 r ∧ (wr 5 r).length ≤ 10 * s.length := by
  unfold lex at h ⊢
  by_cases hl : 65536 < s.length
  · rw [if_pos hl] at h; simp at h
  · rw [if_neg hl] at h ⊢
    obtain ⟨r, a, b⟩ := lexF_inv s.length s [] 1 hb (Nat.le_refl _) h
    exact ⟨r, by rw [a]; simp, b⟩
end Go.Proofs.YtphkdagapoonjaaGreatDoor.Lx
namespace Go.Proofs.YtphkdagapoonjaaGreatDoor.Lx
open Go.Proofs.YtphkdagapoonjaaGreatDoor.U (nx enc encs scal Bytes)
set_option linter.unusedVariables false

theorem lnF_fuel : ∀ (f g : Nat) (o : List Tk) (l : List Int) (i n : Nat), l.length ≤ f → l.length ≤ g → lnF f o l i n = lnF g o l i n
  | f, g, o, [], i, n, _, _ => by rw [lnF_nil, lnF_nil]
  | 0, g, o, c :: r, i, n, h, _ => by simp at h
  | f + 1, 0, o, c :: r, i, n, _, h => by simp at h
  | f + 1, g + 1, o, c :: r, i, n, hf, hg => by
    have h1 : r.length ≤ f := by simpa using hf
    have h2 : r.length ≤ g := by simpa using hg
    have hd : ∀ k, (r.drop k).length ≤ r.length := fun k => by rw [List.length_drop]; omega
    rw [lnF, lnF]
    split
    · rfl
    split
    · exact lnF_fuel f g _ _ _ _ h1 h2
    split
    · exact lnF_fuel f g _ _ _ _ h1 h2
    split
    · exact lnF_fuel f g _ _ _ _ h1 h2
    rename_i h35 h32 h44 h33
    split
    · split
      · rfl
      · exact lnF_fuel f g _ _ _ _ (Nat.le_trans (hd _) h1) (Nat.le_trans (hd _) h2)
    · rename_i h34
      have hw : nen c = true := by unfold nen en; simp; omega
      have hle : ((c :: r).dropWhile nen).length ≤ r.length := by
        rw [List.dropWhile_cons_of_pos hw]
        have := dropW_len (p := nen) r
        omega
      exact lnF_fuel f g _ _ _ _ (Nat.le_trans hle h1) (Nat.le_trans hle h2)
/-- A token, told from a line's front. -/
def atp (i n : Nat) (t : Tk) : Tk := ⟨t.k, t.x, n, i + t.a⟩
theorem atp_atp (i j n m : Nat) (t : Tk) : atp i n (atp j m t) = atp (i + j) n t := by unfold atp; simp only; rw [Nat.add_assoc]
/-- It makes no difference where in a line its rest is read. -/
theorem lnF_shift : ∀ (f : Nat) (l : List Int), ∃ (ts : List Tk) (e : Option Nat), ∀ (o : List Tk) (i n : Nat), (e = none → lnF f o l i n = (o ++ ts.map (atp i n), none)) ∧ (e ≠ none → (lnF f o l i n).2 ≠ none)
  | 0, l => ⟨[], none, fun o i n => ⟨fun _ => by rw [lnF]; simp, fun h => absurd rfl h⟩⟩
  | f + 1, [] => ⟨[], none, fun o i n => ⟨fun _ => by rw [lnF]; simp, fun h => absurd rfl h⟩⟩
  | f + 1, c :: r => by
    by_cases h35 : c = 35
    · exact ⟨[], none, fun o i n => ⟨fun _ => by rw [lnF, if_pos h35]; simp, fun h => absurd rfl h⟩⟩
    by_cases h32 : c = 32 ∨ c = 9
    · obtain ⟨ts, e, H⟩ := lnF_shift f r
      refine ⟨ts.map (atp 1 0), e, fun o i n => ?_⟩
      rw [lnF, if_neg h35, if_pos h32]
      refine ⟨fun he => ?_, fun he => (H o (i + 1) n).2 he⟩
      rw [(H o (i + 1) n).1 he, List.map_map]
      congr 2
      apply List.map_congr_left
      intro t _
      exact (atp_atp i 1 n 0 t).symm
    -- a token x of k bytes
    have tok : ∀ (t : Tk) (k : Nat) (R : List Int), (∀ o i n, lnF (f + 1) o (c :: r) i n = lnF f (o ++ [⟨t.k, t.x, n, i⟩]) R (i + k) n) → t.a = 0 → ∃ (ts : List Tk) (e : Option Nat), ∀ (o : List Tk) (i n : Nat), (e = none → lnF (f + 1) o (c :: r) i n = (o ++ ts.map (atp i n), none)) ∧ (e ≠ none → (lnF (f + 1) o (c :: r) i n).2 ≠ none) := by
      intro t k R hstep ha
      obtain ⟨ts, e, H⟩ := lnF_shift f R
      refine ⟨t :: ts.map (atp k 0), e, fun o i n => ?_⟩
      rw [hstep]
      refine ⟨fun he => ?_, fun he => (H _ (i + k) n).2 he⟩
      rw [(H _ (i + k) n).1 he, List.map_cons, List.map_map]
      have e1 : atp i n t = ⟨t.k, t.x, n, i⟩ := by unfold atp; rw [ha, Nat.add_zero]
      rw [e1]
      have e2 : List.map (atp i n ∘ atp k 0) ts = ts.map (atp (i + k) n) := List.map_congr_left (fun t _ => atp_atp i k n 0 t)
      rw [e2]
      simp
    by_cases h44 : c = 44
    · exact tok ⟨3, [], 0, 0⟩ 1 r (fun o i n => by rw [lnF, if_neg h35, if_neg h32, if_pos h44]) rfl
    by_cases h33 : c = 33
    · exact tok ⟨4, [], 0, 0⟩ 1 r (fun o i n => by rw [lnF, if_neg h35, if_neg h32, if_neg h44, if_pos h33]) rfl
    by_cases h34 : c = 34
    · by_cases hk : (tx (r.length + 1) [] r 1).2.1 = 0
      · refine ⟨[], some 0, fun o i n => ⟨fun h => by simp at h, fun _ => ?_⟩⟩
        rw [lnF, if_neg h35, if_neg h32, if_neg h44, if_neg h33, if_pos h34, if_pos hk]
        simp
      · exact tok ⟨2, (tx (r.length + 1) [] r 1).1, 0, 0⟩ (tx (r.length + 1) [] r 1).2.1 _ (fun o i n => by rw [lnF, if_neg h35, if_neg h32, if_neg h44, if_neg h33, if_pos h34, if_neg hk]) rfl
    · exact tok ⟨1, (c :: r).takeWhile nen, 0, 0⟩ ((c :: r).takeWhile nen).length _ (fun o i n => by rw [lnF, if_neg h35, if_neg h32, if_neg h44, if_neg h33, if_neg h34]) rfl
/-- The rest of a line, read anew at its front. -/
theorem lnF_anew {f : Nat} {o : List Tk} {l : List Int} {i n : Nat} (h : (lnF f o l i n).2 = none) (o' : List Tk) (i' n' : Nat) : ∃ ts : List Tk, lnF f o l i n = (o ++ ts.map (atp i n), none) ∧ lnF f o' l i' n' = (o' ++ ts.map (atp i' n'), none) := by
  obtain ⟨ts, e, H⟩ := lnF_shift f l
  have he : e = none := Classical.byContradiction fun he => (H o i n).2 he h
  exact ⟨ts, (H o i n).1 he, (H o' i' n').1 he⟩
/-- A place in a line. -/
def Pl (zs : List Int) (i : Nat) (t : Tk) : Prop := i ≤ t.a ∧ t.a ≤ i + (encs zs).length ∧ ∃ (zs' : List Int) (ts' : List Tk), Sc zs' ∧ Vz zs' ∧ (encs zs).drop (t.a - i) = encs zs' ∧ lnF (encs zs').length [] (encs zs') 0 1 = (⟨t.k, t.x, 1, 0⟩ :: ts', none)
theorem Pl.more {zs zs2 : List Int} {i k : Nat} {t : Tk} (h : Pl zs2 (i + k) t) (hd : (encs zs).drop k = encs zs2) (hk : k ≤ (encs zs).length) : Pl zs i t := by
  obtain ⟨h1, h2, zs', ts', a, b, c, d⟩ := h
  have hl : (encs zs2).length = (encs zs).length - k := by rw [← hd, List.length_drop]
  refine ⟨by omega, by omega, zs', ts', a, b, ?_, d⟩
  rw [← c, ← hd, List.drop_drop]
  congr 1
  omega
theorem drop_takeW {p : Int → Bool} : ∀ (l : List Int), l.drop (l.takeWhile p).length = l.dropWhile p
  | [] => rfl
  | c :: l => by
    by_cases h : p c = true
    · rw [List.takeWhile_cons_of_pos h, List.dropWhile_cons_of_pos h, List.length_cons, List.drop_succ_cons, drop_takeW l]
    · rw [List.takeWhile_cons_of_neg h, List.dropWhile_cons_of_neg h]; rfl
theorem ln_places : ∀ (m : Nat) (zs : List Int) (f : Nat) (o : List Tk) (i n : Nat), zs.length ≤ m → Sc zs → Vz zs → (encs zs).length ≤ f → (lnF f o (encs zs) i n).2 = none → ∃ ts, (lnF f o (encs zs) i n).1 = o ++ ts ∧ ∀ t ∈ ts, Pl zs i t
  | m, [], f, o, i, n, _, _, _, _, _ => ⟨[], by rw [show encs [] = [] from rfl, lnF_nil]; simp, fun t ht => (by cases ht)⟩
  | 0, c :: zs, f, o, i, n, hm, _, _, _, _ => by simp at hm
  | m + 1, c :: zs, f, o, i, n, hm, hs, hz, hf, h => by
    have hm' : zs.length ≤ m := by simpa using hm
    have hzt : Vz zs := fun x hx => hz x (by simp [hx])
    have hpos := (U.enc_len c).1
    have hle : (encs (c :: zs)).length = (enc c).length + (encs zs).length := by rw [encs_cons, List.length_append]
    -- the first token of what is read from here on
    have front : ∀ (k : Nat) (x : List Int) (R : List Int) (j : Nat), (∀ o i n, lnF f o (encs (c :: zs)) i n = lnF (f - 1) (o ++ [⟨k, x, n, i⟩]) R (i + j) n) → Pl (c :: zs) i ⟨k, x, n, i⟩ := by
      intro k x R j hstep
      refine ⟨Nat.le_refl _, by simp, c :: zs, ?_⟩
      rw [hstep] at h
      obtain ⟨ts, h1, h2⟩ := lnF_anew h [⟨k, x, 1, 0⟩] (0 + j) 1
      refine ⟨ts.map (atp (0 + j) 1), hs, hz, by simp, ?_⟩
      rw [lnF_fuel (encs (c :: zs)).length f _ _ _ _ (Nat.le_refl _) hf, hstep, List.nil_append, h2]
      rfl
    by_cases hw : nen c = true
    · obtain ⟨t1, t2⟩ := encs_takeW (c :: zs)
      have hd := dropW_len (p := nen) (c :: zs)
      rw [List.takeWhile_cons_of_pos hw, List.length_cons, List.length_cons] at hd
      have hdl := dropW_len (p := nen) (encs (c :: zs))
      rw [t1, t2] at hdl
      have hne : 1 ≤ (encs ((c :: zs).takeWhile nen)).length := by rw [List.takeWhile_cons_of_pos hw, encs_cons, List.length_append]; omega
      obtain ⟨f, rfl⟩ : ∃ g, f = g + 1 := ⟨f - 1, by omega⟩
      have hstep : ∀ o i n, lnF (f + 1) o (encs (c :: zs)) i n = lnF f (o ++ [⟨1, encs ((c :: zs).takeWhile nen), n, i⟩]) (encs ((c :: zs).dropWhile nen)) (i + (encs ((c :: zs).takeWhile nen)).length) n := by
        intro o i n
        cases he : encs (c :: zs) with
        | nil => rw [he] at hle; simp at hle; omega
        | cons a q =>
          have ha : nen a = true := by
            have : (encs (c :: zs)).takeWhile nen ≠ [] := by rw [t1]; exact List.length_pos_iff.1 hne
            rw [he] at this
            rcases hb' : nen a with _ | _
            · rw [List.takeWhile_cons_of_neg (by rw [hb']; simp)] at this; exact absurd rfl this
            · rfl
          have hh := en_no (show en a = false by unfold nen at ha; simpa using ha)
          rw [he] at t1 t2
          rw [lnF, if_neg hh.2.2.2.2.2, if_neg (by omega), if_neg hh.2.2.1, if_neg hh.2.2.2.1, if_neg hh.2.2.2.2.1, t1, t2]
      have hfr := front 1 _ _ _ hstep
      rw [hstep] at h ⊢
      obtain ⟨ts, a1, a2⟩ := ln_places m ((c :: zs).dropWhile nen) f _ _ n (by omega) (fun x hx => hs x (dropW_mem hx)) (fun x hx => hz x (dropW_mem hx)) (by omega) h
      refine ⟨⟨1, encs ((c :: zs).takeWhile nen), n, i⟩ :: ts, by rw [a1]; simp, fun t ht => ?_⟩
      rcases List.mem_cons.1 ht with rfl | ht
      · exact hfr
      · refine (a2 t ht).more ?_ (by omega)
        rw [← t2, ← t1, drop_takeW]
    · have hcl : c < 128 := by
        rcases Int.lt_or_le c 128 with hc | hc
        · exact hc
        · exact absurd (nen_high hc) hw
      have he : encs (c :: zs) = c :: encs zs := by rw [encs_cons, enc_low hcl]; rfl
      have hl1 : (enc c).length = 1 := by rw [enc_low hcl]; rfl
      obtain ⟨f, rfl⟩ : ∃ g, f = g + 1 := ⟨f - 1, by omega⟩
      have hen : en c = true := by
        rcases h' : en c with _ | _
        · exact absurd (by unfold nen; rw [h']; rfl) hw
        · rfl
      have hcs : c = 32 ∨ c = 9 ∨ c = 44 ∨ c = 33 ∨ c = 34 ∨ c = 35 := by unfold en at hen; exact of_decide_eq_true hen
      have one : ∀ (k : Nat), (∀ o i n, lnF (f + 1) o (encs (c :: zs)) i n = lnF f (o ++ [⟨k, [], n, i⟩]) (encs zs) (i + 1) n) → ∃ ts, (lnF (f + 1) o (encs (c :: zs)) i n).1 = o ++ ts ∧ ∀ t ∈ ts, Pl (c :: zs) i t := by
        intro k hstep
        have hfr := front k _ _ _ hstep
        rw [hstep] at h ⊢
        obtain ⟨ts, a1, a2⟩ := ln_places m zs f _ (i + 1) n hm' hs.tail hzt (by omega) h
        refine ⟨⟨k, [], n, i⟩ :: ts, by rw [a1]; simp, fun t ht => ?_⟩
        rcases List.mem_cons.1 ht with rfl | ht
        · exact hfr
        · exact (a2 t ht).more (by rw [he]; rfl) (by omega)
      by_cases h35 : c = 35
      · rw [he, lnF, if_pos h35]
        exact ⟨[], by simp, fun t ht => (by cases ht)⟩
      by_cases h32 : c = 32 ∨ c = 9
      · have hstep : lnF (f + 1) o (encs (c :: zs)) i n = lnF f o (encs zs) (i + 1) n := by rw [he, lnF, if_neg h35, if_pos h32]
        rw [hstep] at h ⊢
        obtain ⟨ts, a1, a2⟩ := ln_places m zs f o (i + 1) n hm' hs.tail hzt (by omega) h
        exact ⟨ts, a1, fun t ht => (a2 t ht).more (by rw [he]; rfl) (by omega)⟩
      by_cases h44 : c = 44
      · exact one 3 (fun o i n => by rw [he, lnF, if_neg h35, if_neg h32, if_pos h44])
      by_cases h33 : c = 33
      · exact one 4 (fun o i n => by rw [he, lnF, if_neg h35, if_neg h32, if_neg h44, if_pos h33])
      have h34 : c = 34 := by omega
      by_cases hk : (tx ((encs zs).length + 1) [] (encs zs) 1).2.1 = 0
      · rw [he, lnF, if_neg h35, if_neg h32, if_neg h44, if_neg h33, if_pos h34, if_pos hk] at h
        cases h
      obtain ⟨y, k, zs', b1, b2, b3, b4, b5, b6, b7, b8⟩ := tx_inv zs.length zs ((encs zs).length + 1) [] 1 (Nat.le_refl _) hs.tail (by omega) hk
      have hstep : ∀ o i n, lnF (f + 1) o (encs (c :: zs)) i n = lnF f (o ++ [⟨2, y, n, i⟩]) (encs zs') (i + (1 + k)) n := fun o i n => by
        rw [he, lnF, if_neg h35, if_neg h32, if_neg h44, if_neg h33, if_pos h34, if_neg hk, b1, b3, show 1 + k - 1 = k by omega, b6, List.nil_append]
      have hl' : (encs zs').length + k = (encs zs).length := by rw [← b6, List.length_drop]; omega
      have hz' : Vz zs' := by
        intro x hx
        by_cases hx8 : x < 128
        · have hxm : x ∈ encs zs := by
            apply List.mem_of_mem_drop (i := k)
            rw [b6]
            exact List.mem_flatMap.2 ⟨x, hx, by rw [enc_low hx8]; simp⟩
          obtain ⟨e, e1, e2⟩ := List.mem_flatMap.1 (show x ∈ zs.flatMap enc from hxm)
          by_cases he8 : e < 128
          · rw [enc_low he8] at e2
            rw [List.mem_singleton.1 e2]; exact hzt e e1
          · have := enc_high (c := e) (by omega) x e2; omega
        · exact ⟨.inl (by omega), by omega⟩
      have hfr := front 2 _ _ _ hstep
      rw [hstep] at h ⊢
      obtain ⟨ts, a1, a2⟩ := ln_places m zs' f _ _ n (by omega) b7 hz' (by omega) h
      refine ⟨⟨2, y, n, i⟩ :: ts, by rw [a1]; simp, fun t ht => ?_⟩
      rcases List.mem_cons.1 ht with rfl | ht
      · exact hfr
      · exact (a2 t ht).more (by rw [he, Nat.add_comm 1 k, List.drop_succ_cons, b6]) (by rw [he, List.length_cons]; omega)
/-- What stands at a token's place, to the end of its line, is read as it. -/
theorem line_places {l : List Int} (hb : Bytes l) (n : Nat) (h : (line l n).2.1 = 0) : ∀ t ∈ (line l n).1, t.n = n ∧ t.a ≤ l.length ∧ (t.k = 5 ∧ t.x = [] ∧ t.a = l.length ∨ t.k ≠ 5 ∧ ∃ r, line (l.drop t.a) 1 = (⟨t.k, t.x, 1, 0⟩ :: r, 0, 0, 0)) := by
  have hli := line_inv hb n h
  unfold line at h
  cases h1 : bd l with
  | some k => rw [h1] at h; simp at h
  | none =>
    rw [h1] at h
    simp only at h
    cases h2 : pb l with
    | some k => rw [h2] at h; simp at h
    | none =>
      rw [h2] at h
      simp only at h
      have hv : U.val l = true := (bd_none hb).1 h1
      have hz0 := U.dec_scal l.length l (Nat.le_refl _) hb
      have hen := U.clean_of_val l.length l (Nat.le_refl _) hb hv
      have hpb : ∀ d ∈ l, (32 ≤ d ∨ d = 9) ∧ d ≠ 127 := fun d hd => by
        unfold pb at h2
        rw [List.findIdx?_eq_none_iff] at h2
        have := h2 d hd
        simp at this; omega
      have hz : Vz (U.dec l) := fun c hc => by
        by_cases hc8 : c < 128
        · refine hpb c ?_
          rw [← hen]
          exact List.mem_flatMap.2 ⟨c, hc, by rw [enc_low hc8]; simp⟩
        · exact ⟨.inl (by omega), by omega⟩
      have hq : (lnF l.length [] l 0 n).2 = none := by
        rcases hq : lnF l.length [] l 0 n with ⟨o, x⟩
        rw [hq] at h
        cases x with
        | some k => simp at h
        | none => rfl
      have hpl := ln_places (U.dec l).length (U.dec l) l.length [] 0 n (Nat.le_refl _) (List.all_eq_true.1 hz0) hz (by rw [hen]; exact Nat.le_refl _) (by rw [hen, hq])
      rw [hen] at hpl
      obtain ⟨ts, a1, a2⟩ := hpl
      rw [List.nil_append] at a1
      have hline : (line l n).1 = if ts.length = 0 then [] else ts ++ [⟨5, [], n, l.length⟩] := by
        unfold line
        rw [h1, h2]
        simp only
        rcases hq2 : lnF l.length [] l 0 n with ⟨o, x⟩
        rw [hq2] at a1 hq
        simp only at a1 hq
        subst a1 hq
        rfl
      intro t ht
      rcases hli with hli | ⟨us, u1, u2, u3, u4, u5⟩
      · rw [hli] at ht; cases ht
      · have hts : ts.length ≠ 0 := fun h0 => by
          rw [hline, if_pos h0] at ht; cases ht
        rw [hline, if_neg hts] at u2
        have hus : ts = us := (List.append_inj_left' u2 rfl)
        rw [hline, if_neg hts] at ht
        rcases List.mem_append.1 ht with ht | ht
        · obtain ⟨p1, p2, zs', ts', p3, p4, p5, p6⟩ := a2 t ht
          rw [hen] at p2 p5
          rw [Nat.sub_zero] at p5
          obtain ⟨g1, g2⟩ := u3 t (by rw [← hus]; exact ht)
          have hk5 : t.k ≠ 5 := by rcases g1.2 with g | g | g <;> omega
          refine ⟨g2, by omega, .inr ⟨hk5, ts' ++ [⟨5, [], 1, (encs zs').length⟩], ?_⟩⟩
          have hb' : Bytes (encs zs') := encs_bytes p3
          unfold line
          rw [p5, (bd_none hb').2 (EV.val ⟨zs', p3.all, rfl⟩)]
          have hp2 : pb (encs zs') = none := by
            unfold pb
            rw [List.findIdx?_eq_none_iff]
            intro d hd
            have := hpb d (List.mem_of_mem_drop (by rw [p5]; exact hd))
            simp; omega
          rw [hp2]
          simp only
          rw [p6]
          simp
        · rw [List.mem_singleton.1 ht]
          exact ⟨rfl, Nat.le_refl _, .inl ⟨rfl, rfl, rfl⟩⟩
end Go.Proofs.YtphkdagapoonjaaGreatDoor.Lx
namespace Go.Proofs.YtphkdagapoonjaaGreatDoor.Lx
open Go.Proofs.YtphkdagapoonjaaGreatDoor.U (nx enc encs scal Bytes)
set_option linter.unusedVariables false

/-- The pieces between the bytes 10. -/
def pc : List Int → Nat → List Int
  | s, 0 => s.takeWhile no10
  | s, k + 1 => pc ((s.dropWhile no10).drop 1) k
theorem line_vis {l : List Int} {n : Nat} (h : (line l n).2.1 = 0) : ∀ d ∈ l, d ≠ 13 := by
  intro d hd
  unfold line at h
  cases h1 : bd l with
  | some k => rw [h1] at h; simp at h
  | none =>
    rw [h1] at h
    simp only at h
    cases h2 : pb l with
    | some k => rw [h2] at h; simp at h
    | none =>
      unfold pb at h2
      rw [List.findIdx?_eq_none_iff] at h2
      have := h2 d hd
      simp at this; omega
/-- A piece and its line: the 13 at its end counts for nothing. -/
theorem fl_pc (s : List Int) : pc s 0 = fl s ∨ pc s 0 = fl s ++ [13] := by
  unfold fl pc
  by_cases e : s.dropWhile no10 = []
  · left
    rw [if_pos e]
    have := List.takeWhile_append_dropWhile (p := no10) (l := s)
    rw [e, List.append_nil] at this
    exact this
  · rw [if_neg e]
    unfold strip
    by_cases h : (s.takeWhile no10).getLast? = some 13
    · right
      rw [if_pos h]
      have hne : s.takeWhile no10 ≠ [] := fun h0 => by rw [h0] at h; cases h
      have h2 : (s.takeWhile no10).getLast hne = 13 := by
        rw [List.getLast?_eq_some_getLast hne] at h
        exact Option.some.inj h
      rw [← h2, List.dropLast_concat_getLast hne]
    · left
      rw [if_neg h]
theorem pc_no10 : ∀ (k : Nat) (s : List Int), ∀ d ∈ pc s k, d ≠ 10 ∧ d ∈ s
  | 0, s, d, hd => by
    obtain ⟨a, b⟩ := takeW_mem hd
    exact ⟨by unfold no10 at a; simpa using a, b⟩
  | k + 1, s, d, hd => by
    obtain ⟨a, b⟩ := pc_no10 k _ d hd
    exact ⟨a, dropW_mem (List.mem_of_mem_drop b)⟩
theorem pc_len : ∀ (k : Nat) (s : List Int), (pc s k).length ≤ s.length
  | 0, s => by
    have := dropW_len (p := no10) s
    show (s.takeWhile no10).length ≤ _
    omega
  | k + 1, s => by
    have h1 := pc_len k ((s.dropWhile no10).drop 1)
    have := dropW_len (p := no10) s
    rw [List.length_drop] at h1
    show (pc ((s.dropWhile no10).drop 1) k).length ≤ _
    omega
/-- One line, with its end, read by itself. -/
theorem lex_one {q l : List Int} {o : List Tk} (hq : q = l ∨ q = l ++ [13]) (h10 : ∀ d ∈ q, d ≠ 10) (h13 : ∀ d ∈ l, d ≠ 13) (hl : q.length < 65536) (h : line l 1 = (o, 0, 0, 0)) : lex (q ++ [10]) = (o, 0, 0, 0) := by
  obtain ⟨t1, t2⟩ := take_no10 (a := q) (b := []) h10
  have hfl : fl (q ++ [10]) = l := by
    unfold fl
    rw [t1, t2, if_neg (by simp)]
    rcases hq with rfl | rfl
    · exact strip_vis h13
    · unfold strip
      rw [if_pos (by simp)]
      simp
  unfold lex
  rw [if_neg (by simp; omega), List.length_append, List.length_singleton, lexF, if_neg (by simp), hfl, t2, h]
  simp only [ne_eq, not_true_eq_false, if_false, List.drop_succ_cons, List.drop_zero, List.nil_append]
  exact lexF_nil _ _ _
theorem pc_step {s : List Int} {a b : Nat} (h : a = b + 1) : pc s a = pc ((s.dropWhile no10).drop 1) b := by rw [h]; rfl
/-- A token at its place. -/
def At (s : List Int) (n : Nat) (t : Tk) : Prop := n ≤ t.n ∧ t.a ≤ (pc s (t.n - n)).length ∧ (t.k = 5 ∧ ((pc s (t.n - n)).drop t.a = [] ∨ (pc s (t.n - n)).drop t.a = [13]) ∨ t.k ≠ 5 ∧ ∃ r, lex ((pc s (t.n - n)).drop t.a ++ [10]) = (⟨t.k, t.x, 1, 0⟩ :: r, 0, 0, 0))
theorem lexF_places : ∀ (f : Nat) (s : List Int) (o : List Tk) (n : Nat), Bytes s → s.length ≤ f → s.length < 65536 → (lexF f o s n).2.1 = 0 → ∃ r, (lexF f o s n).1 = o ++ r ∧ ∀ t ∈ r, At s n t
  | 0, s, o, n, _, _, _, _ => ⟨[], by simp [lexF], fun t ht => (by cases ht)⟩
  | f + 1, s, o, n, hb, hf, h6, h => by
    by_cases hs : s = []
    · rw [lexF, if_pos hs]
      exact ⟨[], by simp, fun t ht => (by cases ht)⟩
    · rw [lexF, if_neg hs] at h ⊢
      obtain ⟨l1, l2, l3, l4⟩ := fl_len hs
      by_cases hl : (line (fl s) n).2.1 ≠ 0
      · rw [if_pos hl] at h; exact absurd h hl
      · rw [if_neg hl] at h ⊢
        have hl0 := Classical.byContradiction hl
        obtain ⟨r, a1, a2⟩ := lexF_places f _ (o ++ (line (fl s) n).1) (n + 1) (fun d hd => hb d (l4 d hd)) (by omega) (by omega) h
        refine ⟨(line (fl s) n).1 ++ r, by rw [a1]; simp, fun t ht => ?_⟩
        rcases List.mem_append.1 ht with ht | ht
        · obtain ⟨b1, b2, b3⟩ := line_places (fun d hd => hb d (l3 d hd)) n hl0 t ht
          have hpc := fl_pc s
          unfold At
          rw [b1, Nat.sub_self]
          have hd : (pc s 0).drop t.a = (fl s).drop t.a ∨ (pc s 0).drop t.a = (fl s).drop t.a ++ [13] := by
            rcases hpc with e | e
            · left; rw [e]
            · right; rw [e, List.drop_append_of_le_length b2]
          refine ⟨Nat.le_refl _, ?_, ?_⟩
          · rcases hpc with e | e <;> rw [e]
            · exact b2
            · rw [List.length_append]; omega
          · rcases b3 with ⟨c1, c2, c3⟩ | ⟨c1, q, c2⟩
            · left
              rw [c3, List.drop_length] at hd
              rw [c3]
              exact ⟨c1, hd⟩
            · right
              refine ⟨c1, q, lex_one hd (fun d hd' => (pc_no10 0 s d (List.mem_of_mem_drop hd')).1) (fun d hd' => line_vis hl0 d (List.mem_of_mem_drop hd')) ?_ c2⟩
              have := pc_len 0 s
              rw [List.length_drop]
              omega
        · obtain ⟨b1, b2⟩ := a2 t ht
          unfold At
          rw [pc_step (s := s) (show t.n - n = (t.n - (n + 1)) + 1 by omega)]
          exact ⟨by omega, b2⟩
/-- Where a token stands, there it is read. -/
theorem lex_places {s : List Int} (hb : Bytes s) (h6 : s.length < 65536) (h : (lex s).2.1 = 0) : ∀ t ∈ (lex s).1, At s 1 t := by
  unfold lex at h ⊢
  rw [if_neg (by omega)] at h ⊢
  obtain ⟨r, a, b⟩ := lexF_places s.length s [] 1 hb (Nat.le_refl _) h6 h
  rw [a, List.nil_append]
  exact b
end Go.Proofs.YtphkdagapoonjaaGreatDoor.Lx
