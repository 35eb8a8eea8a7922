/- Texts of one layer, one behind the other: KA KJ KC. -/
import Derived.Test.YtdncaehajhmcoaaGreatZJ2
import Derived.Test.YtdncaehajhmcoaaGreatZP9
import Derived.Test.YtdncaehajhmcoaaGreatZJ4
import Derived.Test.YtdncaehajhmcoaaGreatZL1
import Derived.Lib.Join
import Derived.Ground.NamesProg
import Derived.Shelf.Lay
import Derived.Shelf.Strings.OnBuilder
import Derived.Laws.Slices
/- Plain: how long a mapped text is; that it is made of scalars; what a label is as bytes. -/
namespace Go.Proofs.YtdncaehajhmcoaaGreat.I
open Go.RowKit
set_option linter.unusedVariables false

/-! ### How long -/
theorem fd_pos (c : Int) : 1 ≤ (N.fd c).length := by
  by_cases h : D.dcp c = []
  · rw [N.fd_nil h]; simp
  · have := (N.keys_at (N.keys_of (r := c) (by simpa using h))).2.2.2.2.2.2
    exact Nat.pos_of_ne_zero (fun e => this (List.length_eq_zero_iff.1 e))
theorem flat_len : ∀ l : List Int, l.length ≤ (l.flatMap N.fd).length
  | [] => by simp
  | c :: l => by
    have h1 := fd_pos c
    have h2 := flat_len l
    rw [List.flatMap_cons, List.length_append, List.length_cons]; omega
theorem nus_two : ∀ l : List Int, 2 * l.length ≤ nus l
  | [] => by simp [nus]
  | c :: l => by
    have := nu_le c
    have h2 := nus_two l
    rw [nus_cons, List.length_cons]; omega
theorem mpl_len (l : List Int) (hB : U.Bytes l) : ((U.dec l).flatMap mpx).length ≤ 2 * l.length := by
  have h1 := flat_len ((U.dec l).flatMap mpx)
  have h2 := nus_two (((U.dec l).flatMap mpx).flatMap N.fd)
  have h3 := dec_nu l.length l (Nat.le_refl _) hB
  omega
theorem Mp_lenl (l : List Int) (hB : U.Bytes l) : (Mp (U.dec l)).length ≤ 2 * l.length := by
  have h1 := Mp_nu l hB
  have h2 := nus_two (Mp (U.dec l))
  omega
theorem spl_length : ∀ l : List Int, (spl l).length ≤ l.length + 1
  | [] => by simp [spl]
  | c :: l => by
    obtain ⟨a, t, h⟩ := spl_ne l
    have ih := spl_length l
    rw [spl]
    split
    · rw [List.length_cons, List.length_cons]; omega
    · rw [h] at ih ⊢
      simp only [List.length_cons] at ih ⊢; omega

/-! ### Scalars -/
def Scs (l : List Int) : Prop := ∀ c ∈ l, U.scal c = true
theorem scs_all {l : List Int} : Scs l ↔ l.all U.scal = true := by unfold Scs; rw [List.all_eq_true]
theorem dec_scs (l : List Int) (hB : U.Bytes l) : Scs (U.dec l) := scs_all.2 (U.dec_scal l.length l (Nat.le_refl _) hB)
theorem tab_scal : ∀ x ∈ D.tab, x.2.2.1 = 3 → D.dist x.1 ≠ 0 → 0 ≤ x.1 + D.dist x.1 ∧ (x.2.1 + D.dist x.1 < 55296 ∨ 57343 < x.1 + D.dist x.1) ∧ x.2.1 + D.dist x.1 ≤ 1114111 := by decide +kernel
theorem inst_scal : ∀ p ∈ D.instT, ∀ c ∈ p.2, U.scal c = true := by decide +kernel
theorem mpx_scal (r : Int) (h : U.scal r = true) : Scs (mpx r) := by
  intro c hc
  unfold mpx at hc
  split at hc
  · simp at hc; rw [hc]; exact h
  · unfold D.mp at hc
    split at hc
    · simp at hc
    · split at hc
      · rename_i h3
        unfold D.mpd at hc
        split at hc
        · rename_i hd
          simp at hc
          rcases D.fnd_mem r with e | ⟨hm, h1, h2⟩
          · rw [e] at h3; exact absurd h3 (by decide)
          · have := tab_scal _ hm h3 hd
            rw [hc]
            unfold U.scal
            exact decide_eq_true (by omega)
        · unfold D.inst at hc
          cases hl : D.instT.lookup r with
          | none => rw [hl] at hc; simp at hc
          | some v =>
            rw [hl] at hc
            exact inst_scal _ (D.lookup_mem hl) c hc
      · simp at hc; rw [hc]; exact h
theorem keys_scal : ∀ k ∈ N.keys, ∀ c ∈ N.fd k, U.scal c = true := by decide +kernel
theorem fd_scal (r : Int) (h : U.scal r = true) : Scs (N.fd r) := by
  by_cases hd : D.dcp r = []
  · rw [N.fd_nil hd]; intro c hc; simp at hc; rw [hc]; exact h
  · exact keys_scal r (N.keys_of (r := r) (by simpa using hd))
theorem prs_scal : ∀ p ∈ D.prs, U.scal p.1 = true := by decide +kernel
theorem pr_scal {a b q : Int} (h : N.pr a b = (q, true)) : U.scal q = true := by
  unfold N.pr D.prf at h
  cases hf : D.prs.find? (fun x => x.2.1 == a && x.2.2 == b) with
  | none => rw [hf] at h; cases h
  | some p =>
    rw [hf] at h
    obtain ⟨rfl, _⟩ := Prod.mk.inj h
    exact prs_scal p (List.mem_of_find?_eq_some hf)
def Scp (l : List N.Pt) : Prop := ∀ p ∈ l, U.scal p.1 = true
theorem tstep_scal (t : N.TS) (c : N.Pt) (ht : Scp (N.tout t)) (hc : U.scal c.1 = true) : Scp (N.tout (N.tstep t c)) := by
  rcases N.tstep_cases t c with h | ⟨A, s, B, q, ht', hr, hq, h⟩
  · rw [h, N.app_out]
    intro p hp
    rcases List.mem_append.1 hp with hp | hp
    · exact ht p hp
    · simp at hp; rw [hp]; exact hc
  · rw [h]
    rw [ht'] at ht
    intro p hp
    simp only [N.tout] at hp ht
    rcases List.mem_append.1 hp with hp | hp
    · exact ht p (List.mem_append.2 (.inl hp))
    · rcases List.mem_cons.1 hp with rfl | hp
      · exact pr_scal hq
      · exact ht p (List.mem_append.2 (.inr (List.mem_cons.2 (.inr hp))))
theorem tfold_scal : ∀ (l : List N.Pt) (t : N.TS), Scp (N.tout t) → Scp l → Scp (N.tout (l.foldl N.tstep t))
  | [], t, h, _ => h
  | c :: l, t, h, hl => by
    rw [List.foldl_cons]
    exact tfold_scal l _ (tstep_scal t c h (hl c (by simp))) (fun p hp => hl p (by simp [hp]))
theorem nfc_scal (l : List Int) (h : Scs l) : Scs (N.nfcI l) := by
  have hp : Scp (N.ord ((l.flatMap N.fd).map N.pt)) := by
    intro p hp
    have hm := (N.ord_perm _).mem_iff.1 hp
    obtain ⟨c, hc, rfl⟩ := List.mem_map.1 hm
    obtain ⟨r, hr, hcr⟩ := List.mem_flatMap.1 hc
    exact fd_scal r (h r hr) c hcr
  have := tfold_scal _ (none, []) (fun p hp => by simp [N.tout] at hp) hp
  intro c hc
  unfold N.nfcI N.comp N.tst at hc
  obtain ⟨p, hp, rfl⟩ := List.mem_map.1 hc
  exact this p hp
theorem Mp_scal (l : List Int) (h : Scs l) : Scs (Mp l) := by
  apply nfc_scal
  intro c hc
  obtain ⟨r, hr, hcr⟩ := List.mem_flatMap.1 hc
  exact mpx_scal r (h r hr) c hcr
theorem spl_scal : ∀ (l : List Int), Scs l → ∀ a ∈ spl l, Scs a
  | l, h, a, ha => fun c hc => by
    have hj := join_spl l
    have key : ∀ (ls : List (List Int)), a ∈ ls → c ∈ join ls := by
      intro ls
      induction ls with
      | nil => intro h; simp at h
      | cons b t ih =>
        intro hm
        cases t with
        | nil => simp at hm; rw [← hm]; exact hc
        | cons d t =>
          rw [join]
          rcases List.mem_cons.1 hm with rfl | hm
          · simp [hc]
          · have := ih hm
            simp [this]
    exact h c (by rw [← hj]; exact key _ ha)
theorem decA_scal {T : List Int} (hB : U.Bytes T) : Scs (P.decA T).1 := by
  unfold P.decA
  split
  · intro c hc; simp at hc
  · rename_i h1
    split
    · intro c hc; simp at hc
    · rename_i h2
      cases hd : P.DecP T with
      | none => intro c hc; simp at hc
      | some m => exact scs_all.2 (P.enc_dec hd (by simpa using h2) hB (by omega)).2.1
theorem one_scal {l : List Int} (hy : Bool) (h : Scs l) : Scs (one l hy).1 := by
  unfold one
  split
  · exact h
  · split
    · exact h
    · rename_i h2
      cases hr : rdx (l.drop 4) with
      | none => exact h
      | some m =>
        simp only
        split
        · exact h
        · unfold rdx at hr
          split at hr
          · cases hr
          · split at hr
            · cases hr
            · rename_i h3 h4
              have hp := plain_iff.1 (show plain l = true by simpa using h2)
              have hB : U.Bytes (l.drop 4) := fun c hc => by have := hp c (List.mem_of_mem_drop hc); omega
              exact scs_all.2 (P.enc_dec hr (by simpa using h4) hB (by omega)).2.1
theorem prc_fst (X : List Int) (hy : Bool) : (prc X hy).map (·.1) = (spl X).map fun y => (one y hy).1 := by
  unfold prc
  split
  · rw [List.map_map, List.map_map]; rfl
  · rw [List.map_map]; rfl
theorem prc_scal {X : List Int} (hy : Bool) (h : Scs X) : ∀ x ∈ prc X hy, Scs x.1 := by
  intro x hx
  have hm : x.1 ∈ (prc X hy).map (·.1) := List.mem_map_of_mem hx
  rw [prc_fst] at hm
  obtain ⟨y, hy', e⟩ := List.mem_map.1 hm
  rw [← e]
  exact one_scal hy (spl_scal X h y hy')

/-! ### As bytes -/
theorem scal_nn {c : Int} (h : U.scal c = true) : 0 ≤ c ∧ c ≤ 1114111 := by
  unfold U.scal at h
  have := of_decide_eq_true h
  omega
theorem enc_low (c : Int) (h : c < 128) : U.enc c = [c] := by unfold U.enc; rw [if_pos h]
theorem enc_high (c : Int) (h : ¬ c < 128) : ∃ x y t, U.enc c = x :: y :: t ∧ 128 ≤ x := by
  unfold U.enc
  rw [if_neg h]
  split
  · exact ⟨_, _, _, rfl, by omega⟩
  · split
    · exact ⟨_, _, _, rfl, by omega⟩
    · exact ⟨_, _, _, rfl, by omega⟩
theorem encs_cons (c : Int) (l : List Int) : U.encs (c :: l) = U.enc c ++ U.encs l := by unfold U.encs; rw [List.flatMap_cons]
theorem encs_append (a b : List Int) : U.encs (a ++ b) = U.encs a ++ U.encs b := by unfold U.encs; rw [List.flatMap_append]
theorem encs_head {l : List Int} {a : Int} {t : List Int} (ha : a < 128) (h : U.encs l = a :: t) : ∃ l', l = a :: l' ∧ U.encs l' = t := by
  cases l with
  | nil => simp [U.encs] at h
  | cons c l =>
    rw [encs_cons] at h
    by_cases hc : c < 128
    · rw [enc_low c hc] at h
      simp at h
      exact ⟨l, by rw [h.1], h.2⟩
    · obtain ⟨x, y, u, e, hx⟩ := enc_high c hc
      rw [e] at h
      simp at h
      omega
theorem encs_four {l : List Int} {a b c d : Int} {t : List Int} (ha : a < 128) (hb : b < 128) (hc : c < 128) (hd : d < 128) (h : U.encs l = a :: b :: c :: d :: t) : ∃ l', l = a :: b :: c :: d :: l' ∧ U.encs l' = t := by
  obtain ⟨l1, rfl, h1⟩ := encs_head ha h
  obtain ⟨l2, rfl, h2⟩ := encs_head hb h1
  obtain ⟨l3, rfl, h3⟩ := encs_head hc h2
  obtain ⟨l4, rfl, h4⟩ := encs_head hd h3
  exact ⟨l4, rfl, h4⟩
theorem pre4_iff (l : List Int) : L.pre4 l = true ↔ ∃ l', l = 120 :: 110 :: 45 :: 45 :: l' := by
  unfold L.pre4
  rw [decide_eq_true_eq]
  constructor
  · intro h
    refine ⟨l.drop 4, ?_⟩
    have := List.take_append_drop 4 l
    rw [h] at this
    exact this.symm
  · rintro ⟨l', rfl⟩; rfl
theorem pre4_encs (l : List Int) : L.pre4 l = true ↔ ∃ t, U.encs l = 120 :: 110 :: 45 :: 45 :: t := by
  rw [pre4_iff]
  constructor
  · rintro ⟨l', rfl⟩
    refine ⟨U.encs l', ?_⟩
    rw [encs_cons, encs_cons, encs_cons, encs_cons]
    rfl
  · rintro ⟨t, h⟩
    obtain ⟨l', e, _⟩ := encs_four (by omega) (by omega) (by omega) (by omega) h
    exact ⟨l', e⟩
theorem encs_drop4 {l : List Int} (h : L.pre4 l = true) : (U.encs l).drop 4 = U.encs (l.drop 4) := by
  obtain ⟨l', rfl⟩ := (pre4_iff l).1 h
  rw [encs_cons, encs_cons, encs_cons, encs_cons]
  rfl
theorem encs_plain : ∀ {l : List Int}, (∀ c ∈ l, c < 128) → U.encs l = l
  | [], _ => rfl
  | c :: l, h => by rw [encs_cons, enc_low c (h c (by simp)), encs_plain (fun x hx => h x (by simp [hx]))]; rfl
theorem asc_encs : ∀ (l : List Int), Scs l → P.asc (U.encs l) = plain l
  | [], _ => rfl
  | c :: l, h => by
    have ih := asc_encs l (fun x hx => h x (by simp [hx]))
    have hc := scal_nn (h c (by simp))
    rw [encs_cons]
    have e1 : P.asc (U.enc c ++ U.encs l) = (P.asc (U.enc c) && P.asc (U.encs l)) := by unfold P.asc; rw [List.all_append]
    have e2 : plain (c :: l) = ((decide (0 ≤ c) && decide (c < 128)) && plain l) := by unfold plain; rw [List.all_cons]
    rw [e1, e2, ih]
    congr 1
    by_cases hk : c < 128
    · rw [enc_low c hk]
      simp [P.asc, hk, hc.1]
    · obtain ⟨x, y, u, e, hx⟩ := enc_high c hk
      rw [e]
      simp [P.asc, hk]
      omega
theorem plain_drop4 {l : List Int} (h : L.pre4 l = true) : plain (l.drop 4) = plain l := by
  obtain ⟨l', rfl⟩ := (pre4_iff l).1 h
  unfold plain
  simp
/-- What stands in a label's place, read by its bytes. -/
theorem one_taken {l : List Int} {hy : Bool} (hs : Scs l) (h : L.pre4 l = true) :
    one l hy = if (P.decA (U.encs (l.drop 4))).2 = 0 ∧ plain (P.decA (U.encs (l.drop 4))).1 = false then ((P.decA (U.encs (l.drop 4))).1, L.flt (P.decA (U.encs (l.drop 4))).1 hy) else (l, 512) := by
  have hs4 : Scs (l.drop 4) := fun c hc => hs c (List.mem_of_mem_drop hc)
  have ha := asc_encs _ hs4
  rw [plain_drop4 h] at ha
  unfold one
  rw [if_neg (by rw [h]; decide)]
  by_cases hp : plain l = true
  · have e : U.encs (l.drop 4) = l.drop 4 := encs_plain (fun c hc => (plain_iff.1 hp c (List.mem_of_mem_drop hc)).2)
    rw [if_neg (by rw [hp]; decide), e]
    obtain ⟨D, hD⟩ : ∃ D, l.drop 4 = D := ⟨_, rfl⟩
    rw [hD]
    unfold rdx P.decA
    by_cases h63 : 63 < D.length
    · simp [h63]
    · by_cases has : P.asc D = false
      · simp [h63, has]
      · cases hd : P.DecP D with
        | none => simp [h63, has]
        | some m => cases hm : plain m <;> simp [h63, has, hm]
  · have hp' : plain l = false := by simpa using hp
    rw [if_pos hp']
    rw [hp'] at ha
    unfold P.decA
    rw [ha]
    by_cases h63 : 63 < (U.encs (l.drop 4)).length
    · simp [h63]
    · simp [h63]
theorem join_encs : ∀ (ls : List (List Int)), U.encs (join ls) = join (ls.map U.encs)
  | [] => rfl
  | [a] => rfl
  | a :: b :: l => by
    have ih := join_encs (b :: l)
    rw [join, encs_append, encs_cons, ih]
    show _ = U.encs a ++ 46 :: join (U.encs b :: l.map U.encs)
    rfl
theorem join_bytes (ts : List ByteArray) : U.bn ⟨(Lib.join (ts.map (·.data.toList)) [46]).toArray⟩ = join (ts.map U.bn) := by
  have key : ∀ (xs : List (List UInt8)), (Lib.join xs [46]).map (fun c => (c.toNat : Int)) = join (xs.map fun x => x.map fun c => (c.toNat : Int)) := by
    intro xs
    induction xs with
    | nil => rfl
    | cons x r ih =>
      cases r with
      | nil => rw [Lib.join_one]; rfl
      | cons y r =>
        have e : Lib.join (x :: y :: r) [46] = x ++ 46 :: Lib.join (y :: r) [46] := by
          rw [Lib.join_cons, Lib.join_cons]
          simp [Lib.joinTail]
        rw [e, List.map_append, List.map_cons, ih]
        rfl
  show ((Lib.join (ts.map (·.data.toList)) [46]).toArray.toList.map _) = _
  rw [List.toList_toArray, key, List.map_map]
  rfl
end Go.Proofs.YtdncaehajhmcoaaGreat.I
/- strings.Join by the shelf. -/
namespace Go.Proofs
open Go.Shelf Go.RowKit
shelf_lay Lays.n156 Nm 156 at Tryz as Tryz.laysJoin
end Go.Proofs
namespace Go.Proofs.YtdncaehajhmcoaaGreat.I
open Go.RowKit Go.Shelf
set_option linter.unusedVariables false

theorem joinX : Builder.Extra Tryz.prog Tryz.laysJoin_ren where
  sizeBuilder := by kernel_rfl
  liesBuilder := by kernel_rfl
  t5 := by kernel_rfl
  a5 := fun w => by kernel_rfl
  z5 := fun w => by kernel_rfl
  v5 := fun w => by kernel_rfl
  infoByte := by kernel_rfl
  cellsByte := by kernel_rfl
  sizeByte := by kernel_rfl
  neB5 := by decide
theorem join_f : Tryz.laysJoin_ren.f 156 = 25 := by kernel_rfl
/-- Texts with dots between. -/
theorem join_any (bk c n : Nat) (ts : List ByteArray) (hn : ts.length = n) (w : World) (hc : ∀ j, j < n → w.cell? ⟨bk, j, none⟩ = some (.string (ts[j]?.getD ⟨#[]⟩))) (hp : 0 < n) (hnc : n ≤ c) (hN : n ≤ 100000) (hlen : (join (ts.map U.bn)).length ≤ 1000000000) :
    Calls Tryz.prog 25 #[.slice (some ⟨bk, 0, none⟩) n c, .string ⟨#[46]⟩] w fun e W' => (∃ t, e = .returned (.string t) ∧ U.bn t = join (ts.map U.bn)) ∧ Below w.heap.size w W' := by
  subst hn
  have hb := join_bytes ts
  have h := Any.strings_Join Tryz.laysJoin joinX bk 0 c ts ⟨#[46]⟩ w (fun j x hj => by
    have hjl := (List.getElem?_eq_some_iff.1 hj).1
    have := hc j hjl
    rw [hj] at this
    rw [Nat.zero_add]; exact this) (U.lt_of_cell (a := ⟨bk, 0, none⟩) (hc 0 hp)) (by omega) hnc (by
      have h1 := congrArg List.length hb
      rw [U.bn_length] at h1
      have h2 : (⟨(Lib.join (ts.map (·.data.toList)) [46]).toArray⟩ : ByteArray).size = (Lib.join (ts.map (·.data.toList)) [46]).length := by simp [ByteArray.size]
      rw [h2] at h1
      show (Lib.join (ts.map (·.data.toList)) [46]).length ≤ _
      omega)
  rw [join_f] at h
  refine h.mono ?_
  rintro e W' ⟨rfl, hB⟩
  exact ⟨⟨_, rfl, hb⟩, hB⟩
end Go.Proofs.YtdncaehajhmcoaaGreat.I
/- Plain: where the labels of a row begin and end; the iterator over them; copied. -/
namespace Go.Proofs.YtdncaehajhmcoaaGreat.I
open Go.RowKit Go.Shelf
set_option linter.unusedVariables false
attribute [local go_sem] Oper.semAt_some

/-! ### Pieces -/
abbrev Pc (n : Nat) := { p : Nat × Nat // p.1 ≤ p.2 ∧ p.2 ≤ n }
def toPc (n : Nat) (p : Nat × Nat) : Pc n := if h : p.1 ≤ p.2 ∧ p.2 ≤ n then ⟨p, h⟩ else ⟨(0, 0), by simp⟩
theorem toPc_of {n f t : Nat} (h : f ≤ t ∧ t ≤ n) : toPc n (f, t) = ⟨(f, t), h⟩ := by unfold toPc; rw [dif_pos h]
def cutF : Nat → Nat → List Int → List (Nat × Nat)
  | f, k, [] => [(f, k)]
  | f, k, c :: r => if c = 46 then (f, k) :: cutF (k + 1) (k + 1) r else cutF f (k + 1) r
def cuts (n : Nat) (l : List Int) : List (Pc n) := (cutF 0 0 l).map (toPc n)
def lab (l : List Int) (p : Nat × Nat) : List Int := (l.drop p.1).take (p.2 - p.1)
def pcv (a : Option Addr) (p : Nat × Nat) : Value := .slice (if p.2 = p.1 then a else a.map (·.add p.1)) (p.2 - p.1) (p.2 - p.1)
theorem lab_more (l : List Int) (f k : Nat) (hf : f ≤ k) (hk : k < l.length) : lab l (f, k + 1) = lab l (f, k) ++ [l[k]?.getD 0] := by
  unfold lab
  show (l.drop f).take (k + 1 - f) = (l.drop f).take (k - f) ++ _
  rw [show k + 1 - f = k - f + 1 by omega, List.take_succ_eq_append_getElem (by rw [List.length_drop]; omega), List.getElem_drop, List.getElem?_eq_getElem hk]
  congr 2
  simp only [Option.getD_some]
  congr 1
  omega
theorem cut_lab (l : List Int) : ∀ (r : List Int) (f k : Nat), f ≤ k → k + r.length = l.length → l.drop k = r → (cutF f k r).map (lab l) = prep (lab l (f, k)) (spl r)
  | [], f, k, hf, hk, hr => by simp [cutF, spl, prep]
  | c :: r, f, k, hf, hk, hr => by
    simp only [List.length_cons] at hk
    have hkl : k < l.length := by omega
    have hd := drop_at l k hkl
    rw [hr] at hd
    obtain ⟨e1, e2⟩ := List.cons.inj hd
    rw [cutF]
    split
    · rename_i h
      have ih := cut_lab l r (k + 1) (k + 1) (Nat.le_refl _) (by omega) e2.symm
      have e0 : lab l (k + 1, k + 1) = [] := by unfold lab; simp
      rw [e0, prep_nil] at ih
      rw [List.map_cons, ih, h, prep_dot]
    · rename_i h
      have ih := cut_lab l r f (k + 1) (by omega) (by omega) e2.symm
      rw [lab_more l f k hf hkl, ← e1] at ih
      rw [ih, prep_more _ _ _ h]
theorem cut_bd : ∀ (r : List Int) (f k n : Nat), f ≤ k → k + r.length = n → ∀ p ∈ cutF f k r, p.1 ≤ p.2 ∧ p.2 ≤ n
  | [], f, k, n, hf, hk, p, hp => by simp [cutF] at hp; subst hp; exact ⟨hf, by simp at hk; omega⟩
  | c :: r, f, k, n, hf, hk, p, hp => by
    simp only [List.length_cons] at hk
    rw [cutF] at hp
    split at hp
    · rcases List.mem_cons.1 hp with rfl | hp
      · exact ⟨hf, by simp only; omega⟩
      · exact cut_bd r (k + 1) (k + 1) n (Nat.le_refl _) (by omega) p hp
    · exact cut_bd r f (k + 1) n (by omega) (by omega) p hp
theorem cuts_lab (n : Nat) (l : List Int) (h : l.length = n) : (cuts n l).map (fun p => lab l p.1) = spl l := by
  have h1 := cut_lab l l 0 0 (Nat.le_refl _) (by omega) rfl
  have e0 : lab l (0, 0) = [] := by unfold lab; simp
  rw [e0, prep_nil] at h1
  rw [← h1]
  unfold cuts
  rw [List.map_map]
  apply List.map_congr_left
  intro p hp
  have := cut_bd l 0 0 n (Nat.le_refl _) (by omega) p hp
  obtain ⟨f, t⟩ := p
  show lab l (toPc n (f, t)).1 = _
  rw [toPc_of this]
theorem El.piece {W : World} {a : Option Addr} {n c : Nat} {l : List Int} (h : El W (.slice a n c) l) (hn : l.length = n) (p : Pc n) : El W (pcv a p.1) (lab l p.1) := by
  obtain ⟨⟨f, t⟩, h1, h2⟩ := p
  simp only at h1 h2
  have hl : (lab l (f, t)).length = t - f := by unfold lab; simp only [List.length_take, List.length_drop]; omega
  by_cases he : t = f
  · subst he
    have e0 : lab l (t, t) = [] := by unfold lab; simp
    show El W (pcv a (t, t)) (lab l (t, t))
    rw [e0]
    unfold pcv
    simp only [if_true, Nat.sub_self]
    refine ⟨⟨a, 0, rfl, fun hp => absurd hp (by simp)⟩, fun a' n' c' e => by cases e; exact ⟨Nat.le_refl _, fun _ => rfl⟩⟩
  · obtain ⟨a', c', e', hf⟩ := h.1
    rw [hn] at e'
    cases e'
    obtain ⟨b, off, cur, rfl, hg, hc⟩ := hf (by omega)
    show El W (pcv (some ⟨b, off, none⟩) (f, t)) (lab l (f, t))
    unfold pcv
    rw [if_neg he]
    refine ⟨⟨_, t - f, by rw [hl], fun hp => ⟨b, off + f, cur, by simp [Addr.add], hg, fun j hj => ?_⟩⟩, fun a' n' c' e => by cases e; exact ⟨Nat.le_refl _, fun h => by cases h⟩⟩
    rw [hl] at hj
    have := hc (f + j) (by omega)
    rw [Nat.add_assoc, this]
    unfold lab
    rw [List.getElem?_take_of_lt (by simp only; omega), List.getElem?_drop]
/-- The three-index slice. -/
theorem slice_run (a : Option Addr) (n c f k : Nat) (h1 : f ≤ k) (h2 : k ≤ c) (W : World) :
    (Instr.slice 34 (.slice a n c) (some (.int .i64 (f : Int))) (some (.int .i64 (k : Int))) (some (.int .i64 (k : Int)))).run Tryz.prog W = .ok (pcv a (f, k)) W := by
  rw [run_slice_lhm W 34 a n c (by kernel_rfl) .i64 .i64 .i64 (f : Int) (k : Int) (k : Int) (by omega) (by omega) (by omega) (by omega), sizeOfI W]
  simp only [Result.andThen, sliced, Int.toNat_natCast, Nat.mul_one]
  rfl

/-! ### The iterator -/
abbrev encP (a : Option Addr) (n : Nat) (p : Pc n) : Array Value := #[pcv a p.1]
/-- What the iterator reads: the box of the row, and the row. -/
structure Bx (Bl : Nat) (v : Value) (l : List Int) (W : World) : Prop where
  box : Boxed W Bl 34 v
  el : El W v l
def KeepsL (Bl : Nat) (v : Value) (l : List Int) (W W' : World) : Prop := Bx Bl v l W → Bx Bl v l W'
set_option maxRecDepth 100000 in
set_option maxHeartbeats 2000000 in
theorem dots_in (m : Nat) (hm : 1 ≤ m) (lp Bl : Nat) (a : Option Addr) (n c : Nat) (l : List Int) (hn : l.length = n) (hlen : n ≤ 100000) (J Jx : List (Pc n) → World → Prop)
    (hY : ∀ pre x W, J pre W → pre.length < n + 1 → YieldAt Fence.wide (m - 1) Tryz.prog lp (encP a n x) W fun e W' =>
      (e = .returned (.bool true) ∧ J (pre ++ [x]) W' ∧ KeepsL Bl (.slice a n c) l W W') ∨ (e = .returned (.bool false) ∧ Jx (pre ++ [x]) W'))
    (W : World) (hF : Bx Bl (.slice a n c) l W) (h0 : J [] W) :
    CallsIn Fence.wide m Tryz.prog 61 #[.func (.yield lp) #[] #[], .pointer (some ⟨Bl, 0, none⟩)] W fun e W' => (∃ v, e = .returned v) ∧
      ((∃ ys, ys = cuts n l ∧ J ys W') ∨ (∃ pre, pre <+: cuts n l ∧ Jx pre W')) := by
  have hcl := hF.box.cell
  have hnc := (hF.el.2 _ _ _ rfl).1
  have HN := hid hn
  have HS0 : Hid (cuts n l = [] ++ (cutF 0 0 (l.drop 0)).map (toPc n)) := by show _ = _; rw [List.drop_zero]; rfl
  refine callsIn_of_wp Tryz.func61 rfl trivial ?_ rfl
  simp only [Tryz.ntmps61, List.size_toArray, List.length_cons, List.length_nil, Nat.reduceAdd, Nat.reduceSub, Array.replicate_succ, Array.replicate_zero, List.push_toArray, List.append_toArray, List.nil_append, List.cons_append]
  obtain ⟨C, hC⟩ : ∃ C, cuts n l = C := ⟨_, rfl⟩
  rw [hC] at HS0 ⊢
  clear hC hn
  gi_wp2_with fail
  gi_loopw [3, 8] (fun v3 v8 wr => ∃ (f k : Nat) (pre : List (Pc n)), f ≤ k ∧ k ≤ n ∧ pre.length ≤ k ∧ v3 = .int .i64 f ∧ v8 = .int .i64 k ∧ Bx Bl (.slice a n c) l wr ∧ J pre wr ∧ Hid (C = pre ++ (cutF f k (l.drop k)).map (toPc n)))
    (fun _ v8 _ => n - (intOf v8).toNat)
  case atStart => exact ⟨0, 0, [], Nat.le_refl _, Nat.zero_le _, Nat.le_refl _, rfl, rfl, hF, h0, HS0⟩
  case round =>
    obtain ⟨f, k, pre, hfk, hk, hpk, rfl, rfl, hBx, hJ, HE⟩ := hrel
    have hcl := hBx.box.cell
    by_cases hlt : k < n
    · obtain ⟨b, off, he, hb, hcell⟩ := N.Row21.cell hBx.el.1 HN.out.symm (by rw [HN.out]; omega)
      subst he
      have hck := hcell k (by rw [HN.out]; exact hlt)
      have HDR := hid (drop_at l k (by rw [HN.out]; exact hlt))
      obtain ⟨x, hx⟩ : ∃ x, l[k]?.getD 0 = x := ⟨_, rfl⟩
      rw [hx] at hck HDR
      clear hx hcell hb
      by_cases h46 : x = 46
      · have hsl := fun W => slice_run (some ⟨b, off, none⟩) n c f k hfk (by omega) W
        have HST : Hid (C = (pre ++ [⟨(f, k), hfk, by omega⟩]) ++ (cutF (k + 1) (k + 1) (l.drop (k + 1))).map (toPc n)) := by
          show _ = _
          rw [HE.out, HDR.out, h46, cutF, if_pos rfl, List.map_cons, toPc_of ⟨hfk, by omega⟩]; simp
        subst h46
        have hyy := hY pre ⟨(f, k), hfk, by omega⟩ wr hJ (by omega)
        obtain ⟨fn, tmps, assign, body, hy, hR⟩ := hyy
        dsimp only [encP] at hy
        obtain ⟨u, hu⟩ : ∃ u, pcv (some ⟨b, off, none⟩) (f, k) = u := ⟨_, rfl⟩
        rw [hu] at hsl hy
        clear hu
        gi_wp2
        refine hR.mono ?_
        rintro e W3 (⟨rfl, hJ3, hk3⟩ | ⟨rfl, hJx3⟩)
        · have hB3 := hk3 hBx
          gi_wp2
          go_roundw
          case rel => exact ⟨k + 1, k + 1, _, Nat.le_refl _, by omega, by simp; omega, by go_num, by go_num, hB3, hJ3, HST⟩
          case measure => simp [intOf]; omega
        · gi_wp2
          refine bodyPost_ret (results_none rfl _ _ _) rfl ?_
          exact ⟨⟨_, rfl⟩, .inr ⟨_, ⟨_, HST.out.symm⟩, hJx3⟩⟩
      · have h46b : (x != 46) = true := by simpa using h46
        have h46c : (x == 46) = false := by simpa using h46
        have HST : Hid (C = pre ++ (cutF f (k + 1) (l.drop (k + 1))).map (toPc n)) := by
          show _ = _
          rw [HE.out, HDR.out, cutF, if_neg h46]
        gi_wp2
        go_roundw
        case rel => exact ⟨f, k + 1, pre, by omega, by omega, by omega, by go_num, by go_num, hBx, hJ, HST⟩
        case measure => simp [intOf]; omega
    · obtain rfl : k = n := by omega
      have hsl := fun W => slice_run a k c f k hfk hnc W
      have HST : Hid (C = pre ++ [⟨(f, k), hfk, Nat.le_refl _⟩]) := by
        show _ = _
        rw [HE.out, List.drop_of_length_le (by rw [HN.out]; exact Nat.le_refl _), cutF, List.map_cons, toPc_of ⟨hfk, Nat.le_refl _⟩]; rfl
      have hyy := hY pre ⟨(f, k), hfk, Nat.le_refl _⟩ wr hJ (by omega)
      obtain ⟨fn, tmps, assign, body, hy, hR⟩ := hyy
      dsimp only [encP] at hy
      obtain ⟨u, hu⟩ : ∃ u, pcv a (f, k) = u := ⟨_, rfl⟩
      rw [hu] at hsl hy
      clear hu
      gi_wp2
      refine hR.mono ?_
      rintro e W3 (⟨rfl, hJ3, hk3⟩ | ⟨rfl, hJx3⟩)
      · gi_wp2
        go_end0
        exact ⟨⟨_, rfl⟩, .inl ⟨_, HST.out.symm, hJ3⟩⟩
      · gi_wp2
        go_end0
        exact ⟨⟨_, rfl⟩, .inr ⟨_, ⟨[], by rw [HST.out, List.append_nil]⟩, hJx3⟩⟩
set_option maxHeartbeats 1000000 in
theorem dots_make (m : Nat) (v : Value) (w : World) (hv : ∃ a k c, v = .slice a k c) :
    CallsIn Fence.wide m Tryz.prog 33 #[v] w fun e w' => e = .returned (.func (.func 61) #[] #[.pointer (some ⟨w.heap.size, 0, none⟩)]) ∧ w' = w.alloc (.cells #[v] 34) := by
  obtain ⟨a, k, c, rfl⟩ := hv
  refine callsIn_of_wp Tryz.func33 rfl trivial ?_ rfl
  simp only [Tryz.ntmps33, List.size_toArray, List.length_cons, List.length_nil, Nat.reduceAdd, Nat.reduceSub, Array.replicate_succ, Array.replicate_zero, List.push_toArray, List.append_toArray, List.nil_append, List.cons_append]
  gi_wp2
  go_ret
  exact ⟨rfl, rfl⟩
theorem El.grown {W W' : World} {u : Value} {l : List Int} {row : Option Nat} (h : El W u l) (hg : W.grownBy W' row) (hr : ∀ k, row = some k → ∀ cur, W.heap[k]? ≠ some (.cells cur 21 (0, 0))) : El W' u l := by
  refine ⟨?_, h.2⟩
  obtain ⟨a, cap, e1, f⟩ := h.1
  refine ⟨a, cap, e1, fun hp => ?_⟩
  obtain ⟨b, off, cur, e2, g, hc⟩ := f hp
  exact ⟨b, off, cur, e2, (hg.block b (Array.getElem?_eq_some_iff.1 g).1 (fun e' => hr b e'.symm cur g)).trans g, hc⟩
theorem El.other {W W' : World} {u : Value} {l : List Int} {row : Option Nat} (h : El W u l) (hg : W.grownBy W' row) (hr : ∀ r, row = some r → ∃ o : Obj, W.heap[r]? = some o ∧ o.isCells = false) : El W' u l :=
  h.grown hg (fun k e cur hc => by obtain ⟨o, ho, hn⟩ := hr k e; rw [hc] at ho; cases ho; cases hn)
theorem El.set {W : World} {u : Value} {l : List Int} {B : Nat} {t : TypeId} {x : Value} (h : El W u l) (hb : Boxed W B t x) (ht : t ≠ 21) (v' : Value) : El (W.setCell ⟨B, 0, none⟩ v') u l :=
  h.grown (grownBy_setCell' W B v') (fun k e cur hc => by cases e; rw [show W.heap[B]? = _ from hb] at hc; cases hc; exact ht rfl)
theorem boxed_other {W W' : World} {B : Nat} {t : TypeId} {v : Value} {row : Option Nat} (h : Boxed W B t v) (hg : W.grownBy W' row) (hr : ∀ r, row = some r → ∃ o : Obj, W.heap[r]? = some o ∧ o.isCells = false) : Boxed W' B t v :=
  boxed_own (β := Unit) B t (fun _ => v) () W W' row h hg hr
theorem Bx.other {W W' : World} {Bl : Nat} {v : Value} {l : List Int} {row : Option Nat} (h : Bx Bl v l W) (hg : W.grownBy W' row) (hr : ∀ r, row = some r → ∃ o : Obj, W.heap[r]? = some o ∧ o.isCells = false) : Bx Bl v l W' :=
  ⟨boxed_other h.box hg hr, h.el.other hg hr⟩
theorem Bx.below {W W' : World} {Bl : Nat} {v : Value} {l : List Int} (h : Bx Bl v l W) (hb : Below W.heap.size W W') : Bx Bl v l W' := ⟨(hb.block Bl h.box.lt).trans h.box, h.el.below hb⟩
theorem dots_stops (m : Nat) (hm : 1 ≤ m) (Bl : Nat) (a : Option Addr) (n c : Nat) (l : List Int) (hn : l.length = n) (hlen : n ≤ 100000) (w : World) (hF : Bx Bl (.slice a n c) l w) :
    SeqStopsK Fence.wide m Tryz.prog 61 #[.pointer (some ⟨Bl, 0, none⟩)] (encP a n) (KeepsL Bl (.slice a n c) l) (fun ys => ys = cuts n l) (fun pre => pre <+: cuts n l) (n + 1) w := fun lp J Jx W hW hJ _ hY h0 =>
  dots_in m hm lp Bl a n c l hn hlen J Jx hY W (hF.below hW) h0
theorem keepsL_t {Bl : Nat} {v : Value} {l : List Int} {A B C : World} (h : KeepsL Bl v l A B) (k : KeepsL Bl v l B C) : KeepsL Bl v l A C := fun x => k (h x)
theorem keepsL_b {Bl : Nat} {v : Value} {l : List Int} {w : World} (W : World) (k : Nat) (o o' : Obj) (_ : w.heap.size ≤ k) (h1 : W.heap[k]? = some o) (h2 : o.isCells = false) (_ : o.isWalk = false) : KeepsL Bl v l W (W.putObj k o') :=
  fun x => x.other (grownBy_putObj' W k o') (fun r e => by cases e; exact ⟨o, h1, h2⟩)

/-! ### copied -/
theorem El.srcK {W : World} {u : Value} {l : List Int} (h : El W u l) : U.SrcInts W u l := by
  obtain ⟨a, cap, rfl, hf⟩ := id h.1
  have h2 := h.2 _ _ _ rfl
  cases a with
  | none =>
    have h0 : l.length = 0 := Nat.eq_zero_of_not_pos (fun hp => by obtain ⟨b, off, cur, e, _⟩ := hf hp; cases e)
    have e1 := h2.2 rfl
    exact .inl ⟨by rw [h0, e1], List.length_eq_zero_iff.1 h0⟩
  | some ad =>
    refine .inr ⟨ad, cap, rfl, fun j hj => ?_⟩
    obtain ⟨b, off, cur, e, hg, hc⟩ := hf (by omega)
    cases e
    rw [Addr.add_lit]
    simp [World.cell?, hg, hc j hj]
set_option maxRecDepth 100000 in
set_option maxHeartbeats 2000000 in
theorem copied_any (u : Value) (l : List Int) (w : World) (hlen : l.length ≤ 100000) (hu : El w u l) :
    Calls Tryz.prog 47 #[u] w fun e W' => N.Gives l w e W' := by
  have HU := hid hu.srcK
  obtain ⟨a, c, e, -⟩ := hu.1
  subst e
  obtain ⟨n, hn⟩ : ∃ n, l.length = n := ⟨_, rfl⟩
  have HN := hid hn
  unfold N.Gives
  rw [hn] at hlen HU ⊢
  clear hn hu
  go_enter Tryz.func47, Tryz.ntmps47
  go_wp2_with (at_builtin; refine U.wpList_append_ints rfl _ _ rfl w.heap.size _ 0 [] rfl (World.ownsRow_nil _ _ _ _) _ l rfl HU.out (by have := HN.out; omega) (Nat.le_refl _) ?_; intro v4 w4 r4 g4; rw [HN.out, Nat.zero_add, List.nil_append] at r4; obtain ⟨a4, c4, rfl⟩ := own_sh21 r4; have R4 := hid r4; have HB4 := hid (U.below_grow (e := 21) (size := 1) (n := 0) (xs := []) (Below.refl _ _) (Nat.le_refl _) (World.ownsRow_nil _ _ _ _) g4); clear r4 g4)
  go_ret
  exact ⟨_, rfl, R4.out, HB4.out⟩
end Go.Proofs.YtdncaehajhmcoaaGreat.I
