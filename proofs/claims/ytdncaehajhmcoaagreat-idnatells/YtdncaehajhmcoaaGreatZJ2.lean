/- Texts of one layer, one behind the other: IC ID. -/
import Derived.Test.YtdncaehajhmcoaaGreatZJ1
import Derived.Test.YtdncaehajhmcoaaGreatZU3
/- Plain: two names with a dot between; letters written in other ways; names of small letters and digits. -/
namespace Go.Proofs.YtdncaehajhmcoaaGreat.I
open Go.RowKit
set_option linter.unusedVariables false

/-! ### A dot between -/
theorem pr_46 (b : Int) : (N.pr 46 b).2 = false := by
  unfold N.pr D.prf
  have h : D.prs.find? (fun x => x.2.1 == 46 && x.2.2 == b) = none := by
    rw [List.find?_eq_none]
    intro x hx
    have : ∀ x ∈ D.prs, (x.2.1 == 46) = false := by decide +kernel
    simp [this x hx]
  rw [h]
theorem ord_dot (p : N.Pt) (y : List N.Pt) (hp : p.2 = 0) : N.ord (p :: y) = p :: N.ord y := by
  unfold N.ord N.st
  rw [List.foldl_cons]
  have e2 : N.stp ([], []) p = ([p] ++ [], []) := by simp [N.stp, hp, N.isort]
  rw [e2, N.st_prefix]
  rfl
theorem tst_dot (z : List N.Pt) : ∀ (B : List N.Pt), N.tout (z.foldl N.tstep (some ([], (46, 0)), B)) = (46, 0) :: N.tout (z.foldl N.tstep (none, B)) := by
  induction z with
  | nil => intro B; rfl
  | cons c z ih =>
    intro B
    rw [List.foldl_cons, List.foldl_cons]
    have e1 : N.tstep (some ([], (46, 0)), B) c = if c.2 = 0 then (some ([] ++ (46, 0) :: B, c), []) else (some ([], (46, 0)), B ++ [c]) := by
      show (if N.rch B c = true ∧ (N.pr 46 c.1).2 = true then _ else _) = _
      rw [if_neg (by rw [pr_46]; simp)]
    have e2 : N.tstep (none, B) c = if c.2 = 0 then (some (B, c), []) else (none, B ++ [c]) := rfl
    rw [e1, e2]
    by_cases h : c.2 = 0
    · rw [if_pos h, if_pos h]
      have := N.tfold_pre z [(46, 0)] B [] c
      exact this
    · rw [if_neg h, if_neg h]
      exact ih (B ++ [c])
theorem fd_46 : N.fd 46 = [46] := by decide +kernel
theorem nfc_dot (B : List Int) : N.nfcI (46 :: B) = 46 :: N.nfcI B := by
  unfold N.nfcI
  have e : ((46 :: B).flatMap N.fd).map N.pt = (46, 0) :: (B.flatMap N.fd).map N.pt := by
    rw [List.flatMap_cons, fd_46, List.map_append]
    have : N.pt 46 = (46, 0) := by show (46, N.cl 46) = _; rw [cl_46]
    show [N.pt 46] ++ _ = _
    rw [this]; rfl
  rw [e, ord_dot _ _ rfl]
  unfold N.comp N.tst
  rw [List.foldl_cons]
  have e2 : N.tstep (none, []) (46, 0) = (some ([], (46, 0)), []) := rfl
  rw [e2, tst_dot]; rfl
theorem nfc_two (A B : List Int) : N.nfcI (A ++ 46 :: B) = N.nfcI A ++ 46 :: N.nfcI B := by
  rw [N.nfc_join A (46 :: B) (.inr ⟨46, B, rfl, cl_46⟩), nfc_dot]
theorem Mp_two (x y : List Int) : Mp (x ++ 46 :: y) = Mp x ++ 46 :: Mp y := by
  unfold Mp
  rw [List.flatMap_append, List.flatMap_cons, mpx_valid 46 (.inl (ldh_valid 46 (by omega)))]
  exact nfc_two _ _
theorem nxl_dot (c : Int) (b : List Int) (hc : c < 128) : ∀ (f : Nat) (t : List Int) (n : Nat) (r lo hi : Int), 128 ≤ lo → U.nxl f (t ++ c :: b) n r lo hi = U.nxl f t n r lo hi
  | 0, t, n, r, lo, hi, _ => by simp [U.nxl]
  | f + 1, [], n, r, lo, hi, h => by
    show (if c < lo ∨ hi < c then ((65533 : Int), n, false) else U.nxl f b (n + 1) (r * 64 + c % 64) 128 191) = (65533, n, false)
    rw [if_pos (.inl (by omega))]
  | f + 1, a :: t, n, r, lo, hi, h => by
    show U.nxl (f + 1) (a :: (t ++ c :: b)) n r lo hi = _
    rw [U.nxl, U.nxl]
    split
    · rfl
    · exact nxl_dot c b hc f t _ _ _ _ (by omega)
theorem nx_dot (c : Int) (b a : List Int) (hc : c < 128) (h : a ≠ []) : U.nx (a ++ c :: b) = U.nx a := by
  cases a with
  | nil => exact absurd rfl h
  | cons x t =>
    show U.nx (x :: (t ++ c :: b)) = _
    rw [U.nx, U.nx]
    split
    · rfl
    · split
      · rfl
      · exact nxl_dot c b hc _ t _ _ _ _ (U.low_ge x)
theorem dec_dot (c : Int) (b : List Int) (h0 : 0 ≤ c) (hc : c < 128) (hb : U.Bytes b) : ∀ (n : Nat) (a : List Int), a.length ≤ n → U.Bytes a → U.dec (a ++ c :: b) = U.dec a ++ c :: U.dec b
  | n, [], _, _ => by
    have hB : U.Bytes (c :: b) := fun x hx => by
      rcases List.mem_cons.1 hx with rfl | hx
      · omega
      · exact hb x hx
    rw [List.nil_append, U.dec_cons (c :: b) (by simp) hB, U.nx_w1 c b hc, U.dec_nil]; rfl
  | 0, x :: t, h, _ => by simp at h
  | n + 1, x :: t, h, hB => by
    have hB2 : U.Bytes ((x :: t) ++ c :: b) := fun y hy => by
      rcases List.mem_append.1 hy with hy | hy
      · exact hB y hy
      · rcases List.mem_cons.1 hy with rfl | hy
        · omega
        · exact hb y hy
    have hn := U.nx_n (x :: t) (by simp)
    rw [U.dec_cons _ (by simp) hB2, nx_dot c b (x :: t) hc (by simp), U.dec_cons (x :: t) (by simp) hB, List.drop_append_of_le_length hn.2,
      dec_dot c b h0 hc hb n _ (by rw [List.length_drop]; simp at h ⊢; omega) (hB.drop _)]
    rfl

/-! ### Letters in other ways -/
/-- A byte, or a small letter, or a digit, written as one of its others. -/
def Alt (c : Int) (g : List Int) : Prop := g = [c] ∨ ((97 ≤ c ∧ c ≤ 122) ∧ g = [c - 32]) ∨ ((97 ≤ c ∧ c ≤ 122 ∨ 48 ≤ c ∧ c ≤ 57) ∧ g = U.enc (c + 65248))
theorem Alt.same (c : Int) : Alt c [c] := .inl rfl
theorem Alt.cap (c : Int) (h : 97 ≤ c ∧ c ≤ 122) : Alt c [c - 32] := .inr (.inl ⟨h, rfl⟩)
theorem Alt.wide (c : Int) (h : 97 ≤ c ∧ c ≤ 122 ∨ 48 ≤ c ∧ c ≤ 57) : Alt c (U.enc (c + 65248)) := .inr (.inr ⟨h, rfl⟩)
theorem Alt.cut {c : Int} {motive : (g : List Int) → Alt c g → Prop} (same : motive [c] (Alt.same c)) (cap : ∀ h, motive [c - 32] (Alt.cap c h))
    (wide : ∀ h, motive (U.enc (c + 65248)) (Alt.wide c h)) {g : List Int} (h : Alt c g) : motive g h := by
  rcases h with rfl | ⟨h, rfl⟩ | ⟨h, rfl⟩
  · exact same
  · exact cap h
  · exact wide h
/-- A text, each of its bytes written as one of its others. -/
def Alts : List Int → List Int → Prop
  | [], t => t = []
  | c :: s, t => ∃ g u, Alt c g ∧ Alts s u ∧ t = g ++ u
theorem Alts.nil : Alts [] [] := rfl
theorem Alts.cons {c : Int} {g s t : List Int} (h : Alt c g) (hs : Alts s t) : Alts (c :: s) (g ++ t) := ⟨g, t, h, hs, rfl⟩
theorem Alts.cut {motive : (s t : List Int) → Alts s t → Prop} (nil : motive [] [] Alts.nil)
    (cons : ∀ {c : Int} {g s t : List Int} (h : Alt c g) (hs : Alts s t), motive s t hs → motive (c :: s) (g ++ t) (Alts.cons h hs)) :
    ∀ {s t : List Int} (h : Alts s t), motive s t h
  | [], t, h => by
    obtain rfl : t = [] := h
    exact nil
  | c :: s, t, h => by
    obtain ⟨g, u, h1, h2, rfl⟩ := h
    exact cons h1 h2 (Alts.cut nil cons h2)
theorem wide_bytes : ∀ c : Fin 128, (97 ≤ c.val ∧ c.val ≤ 122 ∨ 48 ≤ c.val ∧ c.val ≤ 57) → U.scal ((c.val : Int) + 65248) = true ∧ (∃ x y z, U.enc ((c.val : Int) + 65248) = [x, y, z] ∧ 191 < x) ∧ mpx ((c.val : Int) + 65248) = [(c.val : Int)] := by
  have : ∀ c : Fin 128, (97 ≤ c.val ∧ c.val ≤ 122 ∨ 48 ≤ c.val ∧ c.val ≤ 57) → U.scal ((c.val : Int) + 65248) = true ∧ (U.enc ((c.val : Int) + 65248)).length = 3 ∧ 191 < (U.enc ((c.val : Int) + 65248)).headD 0 ∧ mpx ((c.val : Int) + 65248) = [(c.val : Int)] := by decide +kernel
  intro c h
  obtain ⟨h1, h2, h3, h4⟩ := this c h
  refine ⟨h1, ?_, h4⟩
  generalize U.enc ((c.val : Int) + 65248) = e at h2 h3
  match e, h2 with
  | [x, y, z], _ => exact ⟨x, y, z, rfl, h3⟩
theorem cap_map : ∀ c : Fin 128, (97 ≤ c.val ∧ c.val ≤ 122) → mpx ((c.val : Int) - 32) = [(c.val : Int)] := by decide +kernel
theorem low_map (c : Int) (h : 97 ≤ c ∧ c ≤ 122 ∨ 48 ≤ c ∧ c ≤ 57) : mpx c = [c] := mpx_valid c (.inl (ldh_valid c (by omega)))
/-- What stops a sequence stops it, in whatever way it is written. -/
theorem nxl_alts : ∀ {s t : List Int}, Alts s t → ∀ (f n : Nat) (r lo hi : Int), 128 ≤ lo → hi ≤ 191 → U.nxl f t n r lo hi = U.nxl f s n r lo hi := by
  intro s t h
  induction h using Alts.cut with
  | nil => intro f n r lo hi _ _; rfl
  | @cons c g s t ha hs ih =>
    intro f n r lo hi h1 h2
    cases f with
    | zero => simp [U.nxl]
    | succ f =>
      cases ha using Alt.cut with
      | same =>
        show U.nxl (f + 1) (c :: t) n r lo hi = _
        rw [U.nxl, U.nxl]
        split
        · rfl
        · exact ih f _ _ _ _ (by omega) (by omega)
      | cap hc =>
        show U.nxl (f + 1) ((c - 32) :: t) n r lo hi = _
        rw [U.nxl, U.nxl, if_pos (.inl (by omega)), if_pos (.inl (by omega))]
      | wide hc =>
        obtain ⟨k, rfl⟩ : ∃ k : Nat, c = k := ⟨c.toNat, by omega⟩
        obtain ⟨_, ⟨x, y, z, he, hx⟩, _⟩ := wide_bytes ⟨k, by omega⟩ (by simp only; omega)
        simp only at he
        rw [he]
        show U.nxl (f + 1) (x :: ([y, z] ++ t)) n r lo hi = _
        rw [U.nxl, U.nxl, if_pos (.inr (by omega)), if_pos (.inl (by omega))]
theorem alts_drop : ∀ (n : Nat) {s t : List Int}, Alts s t → (∀ c ∈ s.take n, 128 ≤ c) → Alts (s.drop n) (t.drop n)
  | 0, s, t, h, _ => h
  | n + 1, [], t, h, _ => by
    obtain rfl : t = [] := h
    simp; exact .nil
  | n + 1, c :: s, _, ⟨g, t, ha, hs, rfl⟩, hc => by
    have h1 : 128 ≤ c := hc c (by simp)
    have h2 : g = [c] := by
      cases ha using Alt.cut with
      | same => rfl
      | cap h => omega
      | wide h => omega
    subst h2
    show Alts (s.drop n) (t.drop n)
    exact alts_drop n hs (fun x hx => hc x (by simp [hx]))
/-- What a sequence takes is no ASCII. -/
theorem nxl_take : ∀ (f : Nat) (t : List Int) (n : Nat) (r lo hi : Int), 128 ≤ lo → ∀ c ∈ t.take ((U.nxl f t n r lo hi).2.1 - n), 128 ≤ c
  | 0, t, n, r, lo, hi, _, c, hc => by simp [U.nxl] at hc
  | f + 1, [], n, r, lo, hi, _, c, hc => by simp at hc
  | f + 1, a :: t, n, r, lo, hi, h, c, hc => by
    rw [U.nxl] at hc
    split at hc
    · simp at hc
    · rename_i hno
      have hm := (U.nxl_n f t (n + 1) (r * 64 + a % 64) 128 191).1
      obtain ⟨m, hm2⟩ : ∃ m, (U.nxl f t (n + 1) (r * 64 + a % 64) 128 191).2.1 - n = m + 1 := ⟨(U.nxl f t (n + 1) (r * 64 + a % 64) 128 191).2.1 - n - 1, by omega⟩
      rw [hm2] at hc
      rcases List.mem_cons.1 hc with rfl | hc
      · omega
      · exact nxl_take f t (n + 1) _ 128 191 (by omega) c (by rw [show (U.nxl f t (n + 1) (r * 64 + a % 64) 128 191).2.1 - (n + 1) = m by omega]; exact hc)
theorem nx_take (a : Int) (t : List Int) (h : 128 ≤ a) : ∀ c ∈ (a :: t).take (U.nx (a :: t)).2.1, 128 ≤ c := by
  intro c hc
  rw [U.nx, if_neg (by omega)] at hc
  split at hc
  · simp at hc; omega
  · have hm := (U.nxl_n (U.follow a).toNat t 1 (if U.follow a = 1 then a % 32 else if U.follow a = 2 then a % 16 else a % 8) (U.lowOf a) (U.highOf a)).1
    have ht := nxl_take (U.follow a).toNat t 1 (if U.follow a = 1 then a % 32 else if U.follow a = 2 then a % 16 else a % 8) (U.lowOf a) (U.highOf a) (U.low_ge a)
    generalize (U.nxl (U.follow a).toNat t 1 (if U.follow a = 1 then a % 32 else if U.follow a = 2 then a % 16 else a % 8) (U.lowOf a) (U.highOf a)).2.1 = m at hc hm ht
    obtain ⟨k, rfl⟩ : ∃ k, m = k + 1 := ⟨m - 1, by omega⟩
    rcases List.mem_cons.1 hc with rfl | hc
    · exact h
    · exact ht c (by simpa using hc)
theorem alts_bytes : ∀ {s t : List Int}, Alts s t → U.Bytes s → U.Bytes t := by
  intro s t h
  induction h using Alts.cut with
  | nil => intro h; exact h
  | @cons c g s t ha hs ih =>
    intro hB x hx
    have hc := hB c (by simp)
    rcases List.mem_append.1 hx with hx | hx
    · cases ha using Alt.cut with
      | same => simp at hx; subst hx; exact hc
      | cap h => simp at hx; omega
      | wide h =>
        obtain ⟨k, rfl⟩ : ∃ k : Nat, c = k := ⟨c.toNat, by omega⟩
        have : ∀ c : Fin 128, (97 ≤ c.val ∧ c.val ≤ 122 ∨ 48 ≤ c.val ∧ c.val ≤ 57) → ∀ x ∈ U.enc ((c.val : Int) + 65248), 0 ≤ x ∧ x ≤ 255 := by decide +kernel
        exact this ⟨k, by omega⟩ (by simp only; omega) x hx
    · exact ih (fun y hy => hB y (by simp [hy])) x hx
/-- Written in other ways, it is mapped alike. -/
theorem alts_map : ∀ (n : Nat) (s t : List Int), s.length ≤ n → U.Bytes s → Alts s t → (U.dec t).flatMap mpx = (U.dec s).flatMap mpx
  | 0, s, t, h, hB, ha => by
    obtain rfl : s = [] := List.eq_nil_of_length_eq_zero (by omega)
    obtain rfl : t = [] := ha
    rfl
  | n + 1, s, t, h, hB, ha => by
    have hBt := alts_bytes ha hB
    cases ha using Alts.cut with
    | nil => rfl
    | @cons c g s t hg hs _ =>
      have hBs : U.Bytes s := fun y hy => hB y (by simp [hy])
      have hBt' : U.Bytes t := alts_bytes hs hBs
      by_cases hc : c < 128
      · have e1 : (U.dec (c :: s)).flatMap mpx = mpx c ++ (U.dec s).flatMap mpx := by
          rw [U.dec_cons (c :: s) (by simp) hB, U.nx_w1 c s hc]; rfl
        have ih := alts_map n s t (by simp at h; omega) hBs hs
        rw [e1, ← ih]
        cases hg using Alt.cut with
        | same =>
          show (U.dec (c :: t)).flatMap mpx = _
          rw [U.dec_cons (c :: t) (by simp) hBt, U.nx_w1 c t hc]; rfl
        | cap hk =>
          show (U.dec ((c - 32) :: t)).flatMap mpx = _
          rw [U.dec_cons ((c - 32) :: t) (by simp) hBt, U.nx_w1 (c - 32) t (by omega)]
          obtain ⟨k, rfl⟩ : ∃ k : Nat, c = k := ⟨c.toNat, by omega⟩
          have hm := cap_map ⟨k, by omega⟩ (by simp only; omega)
          simp only at hm
          rw [List.flatMap_cons]
          show mpx ((k : Int) - 32) ++ _ = _
          rw [hm, low_map _ (.inl hk)]; rfl
        | wide hk =>
          obtain ⟨k, rfl⟩ : ∃ k : Nat, c = k := ⟨c.toNat, by omega⟩
          obtain ⟨w1, ⟨x, y, z, he, hx⟩, w3⟩ := wide_bytes ⟨k, by omega⟩ (by simp only; omega)
          simp only at w1 w3
          have hne : U.enc ((k : Int) + 65248) ++ t ≠ [] := by simp only at he; rw [he]; simp
          rw [U.dec_cons _ hne hBt, U.nx_enc _ w1 t, List.drop_left, List.flatMap_cons, w3, low_map _ hk]
      · have h2 : g = [c] := by
          cases hg using Alt.cut with
          | same => rfl
          | cap h => omega
          | wide h => omega
        subst h2
        have hx : U.nx (c :: t) = U.nx (c :: s) := by
          rw [U.nx, U.nx, if_neg hc, if_neg hc]
          split
          · rfl
          · exact nxl_alts hs _ _ _ _ _ (U.low_ge c) (U.high_le c)
        have hn := U.nx_n (c :: s) (by simp)
        show (U.dec (c :: t)).flatMap mpx = _
        rw [U.dec_cons (c :: t) (by simp) hBt, U.dec_cons (c :: s) (by simp) hB, hx, List.flatMap_cons, List.flatMap_cons]
        congr 1
        have hd := alts_drop (U.nx (c :: s)).2.1 (Alts.cons (Alt.same c) hs) (nx_take c s (by omega))
        exact alts_map n _ _ (by rw [List.length_drop]; simp at h ⊢; omega) (hB.drop _) hd
end Go.Proofs.YtdncaehajhmcoaaGreat.I
/- Plain: names of small letters and digits; how long a name can become. -/
namespace Go.Proofs.YtdncaehajhmcoaaGreat.I
open Go.RowKit
set_option linter.unusedVariables false

/-! ### Small letters and digits -/
def ld (c : Int) : Prop := 97 ≤ c ∧ c ≤ 122 ∨ 48 ≤ c ∧ c ≤ 57
theorem ld_ok : ∀ c : Fin 128, (97 ≤ c.val ∧ c.val ≤ 122 ∨ 48 ≤ c.val ∧ c.val ≤ 57) → L.mrk (c.val : Int) = false ∧ L.bid (c.val : Int) ≠ 2 ∧ L.bid (c.val : Int) ≠ 3 ∧ L.bid (c.val : Int) ≠ 7 := by decide +kernel
theorem ld_at (c : Int) (h : ld c) : L.mrk c = false ∧ L.bid c ≠ 2 ∧ L.bid c ≠ 3 ∧ L.bid c ≠ 7 := by
  unfold ld at h
  obtain ⟨k, rfl⟩ : ∃ k : Nat, c = k := ⟨c.toNat, by omega⟩
  exact ld_ok ⟨k, by omega⟩ (by simp only; omega)
theorem get_mem {l : List Int} {i : Nat} (h : i < l.length) : l[i]?.getD 0 ∈ l := by
  rw [List.getElem?_eq_getElem h]; exact List.getElem_mem h
theorem ld_flt (l : List Int) (hy : Bool) (h : ∀ c ∈ l, ld c) : L.flt l hy = 0 := by
  by_cases h0 : l.length = 0
  · unfold L.flt; rw [if_pos h0]
  · have hasc : ∀ c ∈ l, 0 ≤ c ∧ c < 128 := fun c hc => by have := h c hc; unfold ld at this; omega
    have n45 : ∀ i, i < l.length → l[i]?.getD 0 ≠ 45 := fun i hi e => by have := h _ (get_mem hi); unfold ld at this; omega
    have e1 : (!decide (N.nfcI l = l)) = false := by rw [decide_eq_true (ascii_nfc l hasc).1]; rfl
    have e2 : (hy && decide (4 ≤ l.length) && decide (l[2]?.getD 0 = 45) && decide (l[3]?.getD 0 = 45)) = false := by
      by_cases h4 : 4 ≤ l.length
      · rw [decide_eq_false (n45 2 (by omega))]; simp
      · rw [decide_eq_false h4]; simp
    have e3 : (hy && (decide (l[0]?.getD 0 = 45) || decide (l[l.length - 1]?.getD 0 = 45))) = false := by
      rw [decide_eq_false (n45 0 (by omega)), decide_eq_false (n45 (l.length - 1) (by omega))]; simp
    have e4 : L.pre4 l = false := by
      unfold L.pre4
      apply decide_eq_false
      intro e
      have hm : (45 : Int) ∈ l.take 4 := by rw [e]; simp
      have := h 45 (List.mem_of_mem_take hm)
      unfold ld at this; omega
    have e5 : l.any (fun r => decide (r = 46)) = false := by
      rw [List.any_eq_false]
      intro r hr
      have := h r hr
      unfold ld at this
      simp; omega
    have e6 : L.mrk (l[0]?.getD 0) = false := (ld_at _ (h _ (get_mem (by omega)))).1
    have e7 : l.any L.nval = false := by
      rw [List.any_eq_false]
      intro r hr
      have h2 := h r hr
      unfold ld at h2
      simp [L.nval, ldh_valid r (by omega)]
    have e8 : L.jok l = true := by
      unfold L.jok
      rw [List.all_eq_true]
      intro i hi
      have hi' : i < l.length := List.mem_range.1 hi
      have h2 := h _ (get_mem hi')
      unfold ld at h2
      unfold L.jat
      rw [decide_eq_false (by omega), decide_eq_false (by omega)]; rfl
    rw [flt_sum l hy h0, e1, e2, e3, e4, e5, e6, e7, e8]; rfl
theorem ld_right (l : List Int) (h : ∀ c ∈ l, ld c) : L.goesR l = false := by
  unfold L.goesR L.has
  have k : ∀ b, (b = 2 ∨ b = 3 ∨ b = 7) → (l.any fun r => decide (L.bid r = b)) = false := fun b hb => by
    rw [List.any_eq_false]
    intro r hr
    have := ld_at r (h r hr)
    rcases hb with rfl | rfl | rfl <;> simp [this]
  rw [k 2 (by simp), k 3 (by simp), k 7 (by simp)]; rfl

/-! ### How long -/
def nu (c : Int) : Nat := if c < 128 then 4 else if c < 2048 then 2 else if c < 65536 then 3 else 4
def nus (l : List Int) : Nat := (l.map nu).sum
theorem nus_nil : nus [] = 0 := rfl
theorem nus_cons (c : Int) (l : List Int) : nus (c :: l) = nu c + nus l := by simp [nus]
theorem nus_append (a b : List Int) : nus (a ++ b) = nus a + nus b := by simp [nus]
theorem nus_perm {a b : List Int} (h : a.Perm b) : nus a = nus b := (h.map nu).sum_nat
theorem nu_le (c : Int) : 2 ≤ nu c ∧ nu c ≤ 4 := by unfold nu; (repeat' split) <;> omega
theorem enc_nu (c : Int) : (U.enc c).length ≤ nu c := by unfold U.enc nu; (repeat' split) <;> simp_all <;> omega
theorem encs_nu : ∀ l : List Int, (U.encs l).length ≤ nus l
  | [] => by simp [U.encs, nus]
  | c :: l => by
    have h1 := enc_nu c
    have h2 := encs_nu l
    rw [nus_cons]
    unfold U.encs at h2 ⊢
    rw [List.flatMap_cons, List.length_append]
    omega
def bs (c : Int) : Nat := if c < 128 then 1 else if c < 2048 then 2 else if c < 65536 then 3 else 4
theorem bs_pos (c : Int) : 1 ≤ bs c := by unfold bs; (repeat' split) <;> omega
theorem keys_nu : ∀ k ∈ N.keys, nus (N.fd k) ≤ 8 ∧ 128 ≤ k := by decide +kernel
theorem fd_nu (c : Int) : nus (N.fd c) ≤ 8 ∧ (c < 128 → nus (N.fd c) ≤ 4) ∧ (N.fd c = [c] ∨ c ∈ N.keys) := by
  by_cases h : D.dcp c = []
  · have := nu_le c
    rw [N.fd_nil h]
    have e : nus [c] = nu c := by rw [nus_cons, nus_nil, Nat.add_zero]
    exact ⟨by omega, fun _ => by omega, .inl rfl⟩
  · have hk := N.keys_of (r := c) (by simpa using h)
    have := keys_nu c hk
    exact ⟨this.1, fun h => by omega, .inr hk⟩
theorem low_nu : ∀ c : Fin 128, nus ((mpx (c.val : Int)).flatMap N.fd) ≤ 4 := by decide +kernel
theorem inst_nu : ∀ p ∈ D.instT, nus (p.2.flatMap N.fd) ≤ 8 := by decide +kernel
theorem flat_one (c : Int) : [c].flatMap N.fd = N.fd c := by simp
theorem mf_nu (r : Int) (h0 : 0 ≤ r) : nus ((mpx r).flatMap N.fd) ≤ 4 * bs r := by
  by_cases hr : r < 128
  · obtain ⟨k, rfl⟩ : ∃ k : Nat, r = k := ⟨r.toNat, by omega⟩
    have := low_nu ⟨k, by omega⟩
    have e : bs (k : Int) = 1 := by unfold bs; rw [if_pos hr]
    rw [e]; exact this
  · have hb : 2 ≤ bs r := by unfold bs; rw [if_neg hr]; (repeat' split) <;> omega
    have key : nus ((mpx r).flatMap N.fd) ≤ 8 := by
      unfold mpx
      split
      · rw [flat_one]; exact (fd_nu r).1
      · unfold D.mp
        split
        · simp [nus]
        · split
          · unfold D.mpd
            split
            · rw [flat_one]; exact (fd_nu _).1
            · unfold D.inst
              cases h : D.instT.lookup r with
              | none => simp [nus]
              | some v => exact inst_nu _ (D.lookup_mem h)
          · rw [flat_one]; exact (fd_nu r).1
    omega
theorem nx_bs (l : List Int) (h : l ≠ []) (hl : U.Bytes l) : (0 ≤ (U.nx l).1 ∧ bs (U.nx l).1 ≤ (U.nx l).2.1) ∨ ((U.nx l).1 = 65533 ∧ 1 ≤ (U.nx l).2.1) := by
  by_cases hw : (U.nx l).2.2 = true
  · left
    have h2 := (U.nx_whole l h hl hw).2.1
    have h3 := U.nx_bd l hl
    have h4 := congrArg List.length h2
    have h5 := U.nx_n l h
    rw [List.length_take] at h4
    have e : (U.enc (U.nx l).1).length = bs (U.nx l).1 := by unfold U.enc bs; (repeat' split) <;> rfl
    exact ⟨h3.1, by omega⟩
  · right
    rcases U.nx_inv l h hl with ⟨a, t, rfl, _, _, e⟩ | ⟨a, b, t, rfl, _, _, _, _, e⟩ | ⟨a, b, c, t, rfl, _, _, _, _, _, _, e⟩ | ⟨a, b, c, d, t, rfl, _, _, _, _, _, _, _, _, e⟩ | ⟨n, h1, _, e⟩
    · rw [e] at hw; exact absurd rfl hw
    · rw [e] at hw; exact absurd rfl hw
    · rw [e] at hw; exact absurd rfl hw
    · rw [e] at hw; exact absurd rfl hw
    · rw [e]; exact ⟨rfl, h1⟩
theorem fffd_nu : nus ((mpx 65533).flatMap N.fd) ≤ 4 := by decide +kernel
theorem dec_nu : ∀ (n : Nat) (l : List Int), l.length ≤ n → U.Bytes l → nus (((U.dec l).flatMap mpx).flatMap N.fd) ≤ 4 * l.length
  | n, [], _, _ => by rw [U.dec_nil]; simp [nus]
  | 0, a :: t, h, _ => by simp at h
  | n + 1, a :: t, h, hB => by
    have hn := U.nx_n (a :: t) (by simp)
    have ih := dec_nu n ((a :: t).drop (U.nx (a :: t)).2.1) (by rw [List.length_drop]; simp at h ⊢; omega) (hB.drop _)
    rw [U.dec_cons (a :: t) (by simp) hB, List.flatMap_cons, List.flatMap_append, nus_append]
    rw [List.length_drop] at ih
    have hf : nus ((mpx (U.nx (a :: t)).1).flatMap N.fd) ≤ 4 * (U.nx (a :: t)).2.1 := by
      rcases nx_bs (a :: t) (by simp) hB with ⟨h0, h1⟩ | ⟨h0, h1⟩
      · have := mf_nu _ h0
        omega
      · rw [h0]
        have := fffd_nu
        omega
    omega
theorem prs_nu : ∀ p ∈ D.prs, nu p.1 ≤ nu p.2.1 + nu p.2.2 := by decide +kernel
def nup (l : List N.Pt) : Nat := nus (l.map (·.1))
theorem nup_append (a b : List N.Pt) : nup (a ++ b) = nup a + nup b := by unfold nup; rw [List.map_append, nus_append]
theorem nup_cons (a : N.Pt) (b : List N.Pt) : nup (a :: b) = nu a.1 + nup b := by unfold nup; rw [List.map_cons, nus_cons]
theorem pr_nu {a b q : Int} (h : N.pr a b = (q, true)) : nu q ≤ nu a + nu b := by
  unfold N.pr D.prf at h
  cases hf : D.prs.find? (fun x => x.2.1 == a && x.2.2 == b) with
  | none => rw [hf] at h; cases h
  | some p =>
    rw [hf] at h
    have hm := List.mem_of_find?_eq_some hf
    have hp := List.find?_some hf
    simp at hp
    have := prs_nu p hm
    obtain ⟨rfl, _⟩ := Prod.mk.inj h
    rw [hp.1, hp.2] at this
    exact this
theorem tstep_nu (t : N.TS) (c : N.Pt) : nup (N.tout (N.tstep t c)) ≤ nup (N.tout t) + nu c.1 := by
  rcases N.tstep_cases t c with h | ⟨A, s, B, q, ht, hr, hq, h⟩
  · rw [h, N.app_out, nup_append, nup_cons]
    simp [nup, nus]
  · rw [h, ht]
    have := pr_nu hq
    simp only [N.tout, nup_append, nup_cons]
    omega
theorem tfold_nu : ∀ (l : List N.Pt) (t : N.TS), nup (N.tout (l.foldl N.tstep t)) ≤ nup (N.tout t) + nup l
  | [], t => by simp [nup, nus]
  | c :: l, t => by
    have h1 := tfold_nu l (N.tstep t c)
    have h2 := tstep_nu t c
    rw [List.foldl_cons, nup_cons]
    omega
theorem nfc_nu (l : List Int) : nus (N.nfcI l) ≤ nus (l.flatMap N.fd) := by
  unfold N.nfcI N.comp N.tst
  have h1 := tfold_nu (N.ord ((l.flatMap N.fd).map N.pt)) (none, [])
  have h2 : nup (N.ord ((l.flatMap N.fd).map N.pt)) = nus (l.flatMap N.fd) := by
    unfold nup
    rw [nus_perm ((N.ord_perm _).map _), List.map_map]
    congr 1
    exact List.map_id _
  have h3 : nup (N.tout ((none, []) : N.TS)) = 0 := rfl
  show nup _ ≤ _
  omega
/-- What a text is mapped to is not long. -/
theorem Mp_nu (l : List Int) (hB : U.Bytes l) : nus (Mp (U.dec l)) ≤ 4 * l.length := by
  have h1 := nfc_nu ((U.dec l).flatMap mpx)
  have h2 := dec_nu l.length l (Nat.le_refl _) hB
  unfold Mp
  omega
theorem nus_plain : ∀ (l : List Int), (∀ c ∈ l, c < 128) → nus l = 4 * l.length
  | [], _ => rfl
  | c :: l, h => by
    have e : nu c = 4 := by unfold nu; rw [if_pos (h c (by simp))]
    rw [nus_cons, nus_plain l (fun x hx => h x (by simp [hx])), e, List.length_cons]; omega
theorem enc_short {l T : List Int} (h : P.Enc l T) : l.length ≤ T.length := by
  obtain ⟨ds, rfl, hr⟩ := h
  have h1 := P.run_len (P.plain l) ds
  rw [hr] at h1
  have h2 := P.tx_len (P.plain l).length ds
  have h3 : (P.plain l).length ≤ (P.hd (P.plain l)).length := by
    unfold P.hd
    split
    · omega
    · simp
  rw [List.length_append]
  omega
theorem one_nu (y : List Int) (hy : Bool) (h : (one y hy).2 = 0) : nus (one y hy).1 ≤ nus y := by
  unfold one at h ⊢
  split
  · exact Nat.le_refl _
  · rename_i h1
    rw [if_neg h1] at h
    split
    · exact Nat.le_refl _
    · rename_i h2
      rw [if_neg h2] at h
      cases hr : rdx (y.drop 4) with
      | none => exact Nat.le_refl _
      | some m =>
        simp only
        split
        · exact Nat.le_refl _
        · unfold rdx at hr
          split at hr
          · cases hr
          · split at hr
            · cases hr
            · rename_i h3 h4
              have hp := plain_iff.1 (show plain y = true by simpa using h2)
              have hB : U.Bytes (y.drop 4) := fun c hc => by have := hp c (List.mem_of_mem_drop hc); omega
              have he := (P.enc_dec hr (by simpa using h4) hB (by omega)).1
              have h5 := enc_short he
              rw [P.lower_len, List.length_drop] at h5
              rw [nus_plain y (fun c hc => (hp c hc).2)]
              have h6 : ∀ l : List Int, nus l ≤ 4 * l.length := by
                intro l
                induction l with
                | nil => simp [nus]
                | cons c l ih =>
                  have := nu_le c
                  rw [nus_cons, List.length_cons]; omega
              have := h6 m
              show nus m ≤ _
              omega
theorem nus_join : ∀ (ls ms : List (List Int)), ls.length = ms.length → (∀ i (h : i < ls.length) (h' : i < ms.length), nus ls[i] ≤ nus ms[i]) → nus (join ls) ≤ nus (join ms)
  | [], [], _, _ => Nat.le_refl _
  | [], _ :: _, h, _ => by simp at h
  | _ :: _, [], h, _ => by simp at h
  | [a], [b], _, h => h 0 (by simp) (by simp)
  | [a], b :: c :: l, h, _ => by simp at h
  | a :: b :: l, [c], h, _ => by simp at h
  | a :: b :: l, c :: d :: m, h, hi => by
    have ih := nus_join (b :: l) (d :: m) (by simpa using h) (fun i h1 h2 => by
      have := hi (i + 1) (by simpa using h1) (by simpa using h2)
      simpa using this)
    have h0 := hi 0 (by simp) (by simp)
    simp only [List.getElem_cons_zero] at h0
    rw [join, join, nus_append, nus_append, nus_cons, nus_cons]
    omega
/-- A name without faults is not long as Unicode. -/
theorem uni_nu {l : List Int} {hy : Bool} (hB : U.Bytes l) (h : noF (prc (Mp (U.dec l)) hy) = true) : (U.encs (join ((prc (Mp (U.dec l)) hy).map (·.1)))).length ≤ 4 * l.length := by
  obtain ⟨X, hX⟩ : ∃ X, Mp (U.dec l) = X := ⟨_, rfl⟩
  have h1 := Mp_nu l hB
  rw [hX] at h h1 ⊢
  have e : (prc X hy).map (·.1) = (spl X).map fun y => (one y hy).1 := by
    unfold prc
    split
    · rw [List.map_map, List.map_map]; rfl
    · rw [List.map_map]; rfl
  have hz : ∀ y ∈ spl X, (one y hy).2 = 0 := by
    intro y hy'
    have hall : ∀ x ∈ prc X hy, x.2 = 0 := fun x hx => by simpa using List.all_eq_true.1 h x hx
    unfold prc at hall
    split at hall
    · have h3 := hall _ (List.mem_map_of_mem (List.mem_map_of_mem hy'))
      have h4 := one_nonneg y hy
      unfold bid1 at h3
      simp only at h3
      split at h3
      · exact h3
      · omega
    · exact hall _ (List.mem_map_of_mem hy')
  rw [e]
  have h2 := nus_join ((spl X).map fun y => (one y hy).1) (spl X) (by simp) (fun i hi1 hi2 => by
    rw [List.getElem_map]
    exact one_nu _ hy (hz _ (List.getElem_mem hi2)))
  rw [join_spl] at h2
  have h3 := encs_nu (join ((spl X).map fun y => (one y hy).1))
  omega
end Go.Proofs.YtdncaehajhmcoaaGreat.I
