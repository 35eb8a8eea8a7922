/- Texts of one layer, one behind the other: KD KK KM. -/
import Derived.Test.YtdncaehajhmcoaaGreatZK1
import Derived.Test.YtdncaehajhmcoaaGreatZL3
import Derived.Test.YtdncaehajhmcoaaGreatZP6
import Derived.Test.YtdncaehajhmcoaaGreatZJ7
import Derived.Test.YtdncaehajhmcoaaGreatZN7
import Derived.WalkLawsBesides
import Derived.Recover
import Derived.Defers
/- isASCII, CutPrefix at xn--, taken. -/
namespace Go.Proofs.YtdncaehajhmcoaaGreat.I
open Go.RowKit
set_option linter.unusedVariables false

/-! ### isASCII -/
def hi8 (r : Int) : Bool := decide (128 ≤ r)
theorem plain_hi {l : List Int} (h : Scs l) : plain l = !(l.any hi8) := by
  cases hp : plain l with
  | true =>
    have : l.any hi8 = false := by
      rw [List.any_eq_false]
      intro r hr
      have := plain_iff.1 hp r hr
      simp [hi8]; omega
    rw [this]; rfl
  | false =>
    cases ha : l.any hi8 with
    | true => rfl
    | false =>
      have : plain l = true := plain_iff.2 (fun c hc => by
        have h1 := List.any_eq_false.1 ha c hc
        have h2 := scal_nn (h c hc)
        simp [hi8] at h1
        omega)
      rw [hp] at this; cases this
set_option maxRecDepth 100000 in
set_option maxHeartbeats 1000000 in
theorem hi_any (r : Int) (w : World) : Calls Tryz.prog 93 #[.int .i32 r] w fun e W' => e = .returned (.bool (hi8 r)) ∧ W' = w := by
  go_enter Tryz.func93, Tryz.ntmps93
  go_wp2
  go_ret
  exact ⟨rfl, rfl⟩
set_option maxRecDepth 100000 in
set_option maxHeartbeats 2000000 in
theorem indexHi_any (v : Value) (l : List Int) (w : World) (hlen : l.length ≤ 100000) (hv : U.IntsAt w v l) :
    Calls Tryz.prog 146 #[v, .func (.func 93) #[] #[]] w fun e W' => L.IdxR (l.any hi8) e ∧ W' = w := by
  obtain ⟨a, c, rfl, hf⟩ := L.ints_form hv
  have HF := hid hf
  have HNO := hid (L.any_no (p := hi8) (L := l))
  have HYES := hid (L.any_yes (p := hi8) (L := l))
  obtain ⟨n, hn⟩ : ∃ n, l.length = n := ⟨_, rfl⟩
  rw [hn] at hlen HF HNO HYES ⊢
  obtain ⟨R, hR⟩ : ∃ R, l.any hi8 = R := ⟨_, rfl⟩
  rw [hR] at HNO HYES ⊢
  clear hv hf hn hR
  go_enter Tryz.func146, Tryz.ntmps146
  go_wp2_with fail
  go_loop [8] (fun v8 => ∃ k : Nat, k ≤ n ∧ v8 = .int .i64 k ∧ Hid (∀ j, j < k → hi8 (l[j]?.getD 0) = false)) (fun v8 => n - (intOf v8).toNat)
  case atStart => exact ⟨0, Nat.zero_le _, rfl, (fun j hj => by omega)⟩
  case round =>
    obtain ⟨k, hk, rfl, HA⟩ := hrel
    by_cases hlt : k < n
    · obtain ⟨b, off, rfl, hck⟩ := L.cell_at HF.out (Below.refl _ _) k hlt
      have HX := hid (HYES.out k hlt)
      have HS : Hid (hi8 (l[k]?.getD 0) = false → ∀ j, j < k + 1 → hi8 (l[j]?.getD 0) = false) := fun h j hj => by
        by_cases e : j = k
        · rw [e]; exact h
        · exact HA.out j (by omega)
      have HC := hid (hi_any (l[k]?.getD 0) w)
      obtain ⟨t, ht⟩ : ∃ t, hi8 (l[k]?.getD 0) = t := ⟨_, rfl⟩
      rw [ht] at HX HS HC
      obtain ⟨y, hy⟩ : ∃ y, l[k]?.getD 0 = y := ⟨_, rfl⟩
      rw [hy] at hck HC
      clear hy ht
      cases t with
      | true =>
        have HR := hid (HX.out rfl)
        go_wp2_with (go_at_call 93; refine HC.out.mono ?_; rintro e w1 ⟨rfl, hw1⟩; obtain rfl := hw1.symm)
        go_ret
        exact ⟨⟨k, rfl, by omega, by omega, by rw [HR.out]; exact decide_eq_true (by omega)⟩, rfl⟩
      | false =>
        have HR := hid (HS.out rfl)
        go_wp2_with (go_at_call 93; refine HC.out.mono ?_; rintro e w1 ⟨rfl, hw1⟩; obtain rfl := hw1.symm)
        exact ⟨⟨k + 1, by omega, by go_num, HR⟩, by simp [intOf]; omega⟩
    · have HR := hid (HNO.out (fun j hj => HA.out j (by omega)))
      go_wp2
      go_ret
      exact ⟨⟨-1, rfl, by omega, by omega, by rw [HR.out]; rfl⟩, rfl⟩
set_option maxRecDepth 100000 in
set_option maxHeartbeats 2000000 in
theorem isascii_any (v : Value) (l : List Int) (w : World) (hlen : l.length ≤ 100000) (hs : Scs l) (hv : U.IntsAt w v l) :
    Calls Tryz.prog 65 #[v] w fun e W' => e = .returned (.bool (plain l)) ∧ W' = w := by
  have HC := hid (indexHi_any v l w hlen hv)
  have HP := hid (plain_hi hs)
  obtain ⟨a, c, rfl, -⟩ := L.ints_form hv
  obtain ⟨n, hn⟩ : ∃ n, l.length = n := ⟨_, rfl⟩
  rw [hn] at HC ⊢
  obtain ⟨R, hR⟩ : ∃ R, plain l = R := ⟨_, rfl⟩
  rw [hR] at HP ⊢
  obtain ⟨A, hA⟩ : ∃ A, l.any hi8 = A := ⟨_, rfl⟩
  rw [hA] at HP HC
  clear hv hn hR hA
  have HCF : Hid (Calls Tryz.prog 92 #[.slice a n c, .func (.func 93) #[] #[]] w fun e W' => e = .returned (.bool A) ∧ W' = w) := by
    show Calls _ _ _ _ _
    go_enter Tryz.func92, Tryz.ntmps92
    go_wp2_with fail
    refine HC.out.mono ?_
    rintro e w1 ⟨⟨k, rfl, h1, h2, h3⟩, rfl⟩
    have H3 := hid h3
    clear h3
    go_wp2
    go_ret
    exact ⟨by rw [← H3.out]; rfl, rfl⟩
  go_enter Tryz.func65, Tryz.ntmps65
  go_wp2_with (go_at_call 92; refine HCF.out.mono ?_; rintro e w1 ⟨rfl, hw1⟩; obtain rfl := hw1.symm)
  go_ret
  exact ⟨by rw [HP.out]; rfl, rfl⟩

/-! ### CutPrefix -/
def CutR (s t : ByteArray) (b : Bool) : Prop := (b = true ∧ U.bn s = 120 :: 110 :: 45 :: 45 :: U.bn t) ∨ (b = false ∧ ¬ ∃ r, U.bn s = 120 :: 110 :: 45 :: 45 :: r)
/-- What CutPrefix answers at xn--. -/
def CutP (s : ByteArray) (e : Ending) : Prop := ∃ t b, e = .returned (.tuple #[.string t, .bool b]) ∧ CutR s t b
theorem bn_take (s : ByteArray) (k : Nat) : U.bn (s.extract 0 k) = (U.bn s).take k := by
  unfold U.bn
  rw [← List.map_take]
  congr 1
  simp [ByteArray.data_extract]
theorem cut_yes (s : ByteArray) (h : ((s.extract 0 4).toList == [120, 110, 45, 45]) = true) : U.bn s = 120 :: 110 :: 45 :: 45 :: U.bn (s.extract 4 s.size) := by
  have h1 : (s.extract 0 4).toList = [120, 110, 45, 45] := eq_of_beq h
  have h2 := bn_take s 4
  unfold U.bn at h2
  rw [← Go.ByteArray.toList_eq, h1] at h2
  have h3 := List.take_append_drop 4 (U.bn s)
  rw [U.bn_extract, ← h3]
  show (U.bn s).take 4 ++ _ = _
  rw [show (U.bn s).take 4 = [120, 110, 45, 45] from h2.symm]
  simp
theorem cut_no (s : ByteArray) (h : ((s.extract 0 4).toList == [120, 110, 45, 45]) = false) : ¬ ∃ r, U.bn s = 120 :: 110 :: 45 :: 45 :: r := by
  rintro ⟨r, hr⟩
  have h2 := bn_take s 4
  rw [hr] at h2
  have h3 : U.bn (s.extract 0 4) = [120, 110, 45, 45] := h2
  have h4 : (s.extract 0 4).toList = [120, 110, 45, 45] := by
    rw [Go.ByteArray.toList_eq]
    unfold U.bn at h3
    have inj : ∀ (x y : List UInt8), x.map (fun c => (c.toNat : Int)) = y.map (fun c => (c.toNat : Int)) → x = y := by
      intro x
      induction x with
      | nil => intro y h; cases y with
        | nil => rfl
        | cons _ _ => simp at h
      | cons a x ih => intro y h; cases y with
        | nil => simp at h
        | cons b y =>
          simp only [List.map_cons, List.cons.injEq] at h
          have e1 : a = b := UInt8.toNat_inj.1 (by omega)
          rw [e1, ih y h.2]
    exact inj _ [120, 110, 45, 45] h3
  rw [h4] at h
  exact absurd h (by decide)
set_option maxRecDepth 100000 in
set_option maxHeartbeats 2000000 in
theorem cut_any (s : ByteArray) (w : World) (hs : s.size ≤ 1000000) :
    Calls Tryz.prog 62 #[.string s, .string ⟨#[120, 110, 45, 45]⟩] w fun e W' => CutP s e ∧ W' = w := by
  by_cases h4 : 4 ≤ s.size
  · have HY := hid (cut_yes s)
    have HNO := hid (cut_no s)
    have h4z : (4 : Int) ≤ (s.size : Int) := by omega
    obtain ⟨q, hq⟩ : ∃ q, ((s.extract 0 4).toList == [120, 110, 45, 45]) = q := ⟨_, rfl⟩
    rw [hq] at HY HNO
    cases q with
    | true =>
      go_enter Tryz.func62, Tryz.ntmps62
      go_wp2
      go_ret2
      exact ⟨⟨_, _, rfl, .inl ⟨rfl, HY.out trivial⟩⟩, rfl⟩
    | false =>
      go_enter Tryz.func62, Tryz.ntmps62
      go_wp2
      go_ret2
      exact ⟨⟨_, _, rfl, .inr ⟨rfl, HNO.out trivial⟩⟩, rfl⟩
  · have HNO : Hid (¬ ∃ r, U.bn s = 120 :: 110 :: 45 :: 45 :: r) := by
      rintro ⟨r, hr⟩
      have := congrArg List.length hr
      rw [U.bn_length] at this
      simp at this; omega
    have h4z : ¬ (4 : Int) ≤ (s.size : Int) := by omega
    go_enter Tryz.func62, Tryz.ntmps62
    go_wp2
    go_ret2
    exact ⟨⟨_, _, rfl, .inr ⟨rfl, HNO.out⟩⟩, rfl⟩
end Go.Proofs.YtdncaehajhmcoaaGreat.I
/- written, allWritten: what is wrong ends them by a panic. -/
namespace Go.Proofs.YtdncaehajhmcoaaGreat.I
open Go.RowKit
set_option linter.unusedVariables false

/-- The value of a panic. -/
def wrongV (r : Int) : List PanicEntry := [{ v := .iface 45 (.agg #[.int .i64 r]), recovered := false }]
theorem plain_part {l : List Int} (h : plain l = true) (p : List Int) : Part l p ↔ p = l := by
  constructor
  · rintro (⟨_, e⟩ | ⟨h2, _⟩)
    · exact e
    · rw [h] at h2; cases h2
  · rintro rfl; exact .inl ⟨h, rfl⟩
def WrR (l : List Int) (e : Ending) : Prop := (∃ t, e = .returned (.string t) ∧ Part l (U.bn t)) ∨ (e = .panicked (wrongV 70) ∧ ¬ ∃ p, Part l p)
set_option maxRecDepth 100000 in
set_option maxHeartbeats 4000000 in
theorem written_any (v : Value) (l : List Int) (w : World) (hlen : l.length ≤ 10000) (hs : Scs l) (hv : El w v l) :
    Calls Tryz.prog 49 #[v] w fun e W' => WrR l e ∧ Below w.heap.size w W' := by
  have HAS := hid (isascii_any v l w (by omega) hs hv.ints)
  have HENC := hid (U.encode_any v l (by omega) w hv.ints)
  have HPE := hid (P.pencode_any v l (by omega) w hv.ints)
  have HS := hid hs
  obtain ⟨a, c, e0, -⟩ := hv.1
  obtain ⟨n, hn⟩ : ∃ n, l.length = n := ⟨_, rfl⟩
  rw [hn] at e0
  subst e0
  clear hv hn hs
  cases hp : plain l with
  | true =>
    have HP := hid (plain_part hp)
    have HEL : Hid (U.encs l = l) := encs_plain (fun c hc => (plain_iff.1 hp c hc).2)
    rw [hp] at HAS
    clear hp
    go_enter Tryz.func49, Tryz.ntmps49
    go_wp2_with (first
      | (go_at_call 65; refine HAS.out.mono ?_; rintro e wb ⟨rfl, hwb⟩; obtain rfl := hwb.symm)
      | (go_at_call 29; refine HENC.out.mono ?_; rintro e w1 ⟨⟨s1, r1, rfl, hE⟩, B1⟩; have HE := hid hE; have HB1 := hid B1; clear hE B1))
    go_ret
    refine ⟨.inl ⟨s1, rfl, (HP.out _).2 ?_⟩, HB1.out⟩
    rcases HE.out with ⟨_, _, h⟩ | ⟨h, _⟩
    · rw [h, HEL.out]
    · rw [scs_all.1 HS.out] at h; cases h
  | false =>
    rw [hp] at HAS
    have HP := hid hp
    clear hp
    go_enter Tryz.func49, Tryz.ntmps49
    go_upto_if 21 with (first
      | (go_at_call 65; refine HAS.out.mono ?_; rintro e wb ⟨rfl, hwb⟩; obtain rfl := hwb.symm)
      | (go_at_call 83; refine HPE.out.mono ?_; rintro e w1 ⟨⟨s1, r1, rfl, hE⟩, B1⟩; have HE := hid (enc_part hE HP.out); have HB1 := hid B1; clear hE B1))
    by_cases hr : r1 = 0
    · subst hr
      have h1 : Part l ([120, 110, 45, 45] ++ U.bn s1) ∧ s1.size ≤ 63 := by
        rcases HE.out with ⟨_, h, h2⟩ | ⟨h, _⟩
        · exact ⟨h, h2⟩
        · exact absurd rfl h
      have HPT := hid h1.1
      have hs1 := h1.2
      clear h1 HE
      go_wp2
      go_ret
      refine ⟨.inl ⟨_, rfl, ?_⟩, HB1.out⟩
      have e : U.bn (⟨#[120, 110, 45, 45]⟩ ++ s1) = [120, 110, 45, 45] ++ U.bn s1 := by rw [U.bn_append]; rfl
      rw [e]; exact HPT.out
    · have hrb : (r1 != 0) = true := by simpa using hr
      have hrc : (r1 == 0) = false := by simpa using hr
      have HNO : Hid (¬ ∃ p, Part l p) := by
        rcases HE.out with ⟨h, _⟩ | ⟨_, h⟩
        · exact absurd h hr
        · exact h
      clear HE
      go_wp2
      exact ⟨rfl, .inr ⟨rfl, HNO.out⟩, HB1.out⟩
theorem written_yes (v : Value) (l : List Int) (w : World) (hlen : l.length ≤ 10000) (hs : Scs l) (hv : El w v l) (hp : ∃ p, Part l p) :
    Calls Tryz.prog 49 #[v] w fun e W' => (∃ t, e = .returned (.string t) ∧ Part l (U.bn t)) ∧ Below w.heap.size w W' :=
  (written_any v l w hlen hs hv).mono (by
    rintro e W' ⟨h | ⟨_, h⟩, hB⟩
    · exact ⟨h, hB⟩
    · exact absurd hp h)
theorem written_no (v : Value) (l : List Int) (w : World) (hlen : l.length ≤ 10000) (hs : Scs l) (hv : El w v l) (hp : ¬ ∃ p, Part l p) :
    Calls Tryz.prog 49 #[v] w fun e W' => e = .panicked (wrongV 70) ∧ Below w.heap.size w W' :=
  (written_any v l w hlen hs hv).mono (by
    rintro e W' ⟨⟨t, _, h⟩ | ⟨h, _⟩, hB⟩
    · exact absurd ⟨_, h⟩ hp
    · exact ⟨h, hB⟩)

/-! ### allWritten -/
theorem made_str (n : Nat) : (madeCells #[.string ⟨#[]⟩] n).toList = List.replicate n (Value.string ⟨#[]⟩) := by
  unfold madeCells
  simp [Nat.mod_one, List.map_const']
/-- The first texts, and empty ones. -/
def pad (ts : List ByteArray) (n : Nat) : List Value := (ts ++ List.replicate (n - ts.length) (⟨#[]⟩ : ByteArray)).map Value.string
theorem pad_set (ts : List ByteArray) (n k : Nat) (hk : ts.length = k) (hn : k < n) (t : ByteArray) : (pad ts n).set k (.string t) = pad (ts ++ [t]) n := by
  unfold pad
  rw [← List.map_set, List.set_append_right _ _ (by omega), hk, Nat.sub_self, show n - k = (n - (k + 1)) + 1 by omega, List.replicate_succ, List.set_cons_zero]
  congr 1
  rw [List.append_assoc, List.length_append, hk]
  rfl
theorem pad_full (ts : List ByteArray) (n : Nat) (h : ts.length = n) : pad ts n = ts.map Value.string := by
  unfold pad
  rw [h, Nat.sub_self]; simp
theorem pad_get (ts : List ByteArray) (n k : Nat) (hk : ts.length = k) (hn : k < n) : (pad ts n)[k]? = some (.string ⟨#[]⟩) := by
  unfold pad
  rw [List.getElem?_map, List.getElem?_append_right (by omega), hk, Nat.sub_self, show n - k = (n - (k + 1)) + 1 by omega, List.replicate_succ]
  rfl
/-- What allWritten answers, or how it ends. -/
def AwR (xs : List (List Int × Int)) (n : Nat) (w : World) (e : Ending) (W' : World) : Prop :=
  (∃ ts cap, PartsR xs ts ∧ e = .returned (.slice (some ⟨w.heap.size, 0, none⟩) n cap) ∧ W'.ownsRow w.heap.size 9 1 (.slice (some ⟨w.heap.size, 0, none⟩) n cap) n (ts.map Value.string)) ∨ (BadP xs ∧ e = .panicked (wrongV 70))
set_option maxRecDepth 100000 in
set_option maxHeartbeats 8000000 in
theorem allWritten_any (w0 w : World) (vo vf : Value) (n : Nat) (vs : List Value) (xs : List (List Int × Int)) (hn : n ≤ 10000) (hp : 0 < n) (hb : ∀ x ∈ xs, (0 ≤ x.2 ∧ x.2 ≤ 768) ∧ x.1.length ≤ 10000 ∧ Scs x.1) (hP : Pr w0 w vo vf n vs xs) :
    Calls Tryz.prog 23 #[vo, vf] w fun e W' => AwR xs n w e W' ∧ Below w.heap.size w W' := by
  have HB := hid hb
  have HP := hid hP
  have HL := hid hP.len
  obtain ⟨ao, co, rfl⟩ := own_sh22 hP.out
  obtain ⟨af, cf, rfl⟩ := own_sh16 hP.flt
  have hmk := fun W => run_make_row' (P := Tryz.prog) 46 9 (.string ⟨#[]⟩) 16 Tryz.underlying46 infoS rfl .i64 .i64 n (by omega) (by omega) W
  have h0 : (w.alloc (.cells (madeCells #[.string ⟨#[]⟩] n) 9)).ownsRow w.heap.size 9 1 (.slice (some ⟨w.heap.size, 0, none⟩) n n) n (pad [] n) := by
    refine ⟨by simp [pad], .inr ⟨w.heap.size, n, _, rfl, Nat.le_refl _, heap_alloc_last w _, Nat.le_refl _, by unfold maxLen; omega, by rw [size_madeCells]; simp, ?_⟩⟩
    rw [made_str]
    simp [pad]
  have H0 := hid h0
  clear h0 hP hb
  go_enter Tryz.func23, Tryz.ntmps23
  go_wp2_with fail
  go_loopw [13] (fun v13 wr => ∃ (k : Nat) (ts : List ByteArray), k ≤ n ∧ v13 = .int .i64 k ∧ Hid (ts.length = k) ∧ Hid (PartsR (xs.take k) ts) ∧ Hid (wr.ownsRow w.heap.size 9 1 (.slice (some ⟨w.heap.size, 0, none⟩) n n) n (pad ts n)) ∧ Hid (Below w.heap.size w wr)) (fun v13 _ => n - (intOf v13).toNat)
  case atStart => exact ⟨0, [], Nat.zero_le _, rfl, rfl, PartsR.nil, H0, (Below.refl _ w).alloc (Nat.le_refl _) _⟩
  case round =>
    obtain ⟨k, ts, hk, rfl, HTL, HPT, HR, HBE⟩ := hrel
    by_cases hlt : k < n
    · have hkx : k < xs.length := by rw [← HL.out]; exact hlt
      have HT := hid (take_x xs k hkx)
      have hb := HB.out _ (List.getElem_mem hkx)
      have HMEM := hid (List.getElem_mem hkx)
      obtain ⟨g1, rfl, hc1, -⟩ := row_cell HP.out.out k hlt
      obtain ⟨g2, rfl, hc2, -⟩ := row_cell HP.out.flt k hlt
      have hel := HP.out.els.2 k (by rw [List.length_map]; exact hkx)
      rw [List.getElem?_map, List.getElem?_eq_getElem hkx] at hel hc2
      replace hel : El w (vs[k]?.getD undef) xs[k].1 := hel
      replace hc2 : w.cell? ⟨g2, k, none⟩ = some (.int .u16 xs[k].2) := hc2
      obtain ⟨ae, ce, hue⟩ := el_shape hel
      rw [hue] at hc1 hel
      obtain ⟨⟨lk, fk⟩, hlf⟩ : ∃ y, xs[k] = y := ⟨_, rfl⟩
      rw [hlf] at hc2 hel hc1 hb HT HMEM
      simp only at hc2 hel hc1 hb
      obtain ⟨q, hq⟩ : ∃ q, lk.length = q := ⟨_, rfl⟩
      have HQ := hid hq
      rw [hq] at hc1 hel hb
      obtain ⟨⟨hb0, hb1⟩, hb2, hb3⟩ := hb
      have HEL := hid (hel.below HBE.out)
      have HSC := hid hb3
      have d1 : wr.cell? ⟨g1, k, none⟩ = some (.slice ae q ce) := (HBE.out.cell (p := ⟨g1, k, none⟩) (U.lt_of_cell hc1)).trans hc1
      have d2 : wr.cell? ⟨g2, k, none⟩ = some (.int .u16 fk) := (HBE.out.cell (p := ⟨g2, k, none⟩) (U.lt_of_cell hc2)).trans hc2
      have z1 := HBE.out.size
      clear hel hue hlf hq hc1 hc2 hb3
      by_cases hf0 : fk = 0
      · subst hf0
        by_cases hpp : ∃ p, Part lk p
        · have HW := hid (written_yes _ lk wr (by rw [HQ.out]; omega) HSC.out HEL.out hpp)
          clear hpp
          go_upto_region 7 with fail
          go_wp2_with (go_at_call 49; refine HW.out.mono ?_; rintro e w2 ⟨⟨t, rfl, hpt⟩, B2⟩; have HPT2 := hid hpt; have HB2 := hid (HBE.out.trans (B2.mono HBE.out.size)); have HR2 := hid (U.ownsRow_below HR.out B2 (Nat.le_refl _)); have hcw := (HR2.out.cellAt k (by omega)); rw [pad_get ts n k HTL.out hlt] at hcw; obtain ⟨gw, ew, -, hfw⟩ := row_cell HR2.out k hlt; cases ew; clear hpt B2)
          have hst := HR2.out.stored k (.string t)
          rw [pad_set ts n k HTL.out hlt] at hst
          have HST := hid hst
          clear hst
          go_roundw
          case rel =>
            refine ⟨k + 1, ts ++ [t], by omega, by go_num, by show _ = _; rw [List.length_append, HTL.out]; rfl, ?_, HST.out.1, HB2.out.setCell (p := ⟨w.heap.size, k, none⟩) (Nat.le_refl _) _⟩
            show PartsR _ _
            rw [HT.out]
            exact HPT.out.snoc rfl HPT2.out
          case measure => simp [intOf]; omega
        · have HW := hid (written_no _ lk wr (by rw [HQ.out]; omega) HSC.out HEL.out hpp)
          have HNO := hid hpp
          clear hpp
          go_wp2_with (go_at_call 49; refine HW.out.mono ?_; rintro e w2 ⟨rfl, B2⟩)
          exact ⟨rfl, .inr ⟨⟨_, HMEM.out, .inr HNO.out⟩, rfl⟩, HBE.out.trans (B2.mono HBE.out.size)⟩
      · have hfb : (fk != 0) = true := by simpa using hf0
        have hfc : (fk == 0) = false := by simpa using hf0
        go_wp2
        exact ⟨rfl, .inr ⟨⟨_, HMEM.out, .inl hf0⟩, rfl⟩, HBE.out⟩
    · obtain rfl : k = n := by omega
      have hkk : xs.take k = xs := List.take_of_length_le (by rw [← HL.out]; exact Nat.le_refl _)
      rw [hkk] at HPT
      rw [pad_full ts k HTL.out] at HR
      go_wp2
      go_ret
      exact ⟨.inl ⟨ts, k, HPT.out, rfl, HR.out⟩, HBE.out⟩
end Go.Proofs.YtdncaehajhmcoaaGreat.I
/- ASCII: what is wrong is recovered. -/
namespace Go.Proofs.YtdncaehajhmcoaaGreat.I
open Go.RowKit
set_option linter.unusedVariables false

theorem boxed_setA {W : World} {B B' : Nat} {t t' : TypeId} {v x : Value} (h : Boxed W B t v) (h' : Boxed W B' t' x) (ht : t ≠ t') (u : Value) : Boxed (W.setCell ⟨B', 0, none⟩ u) B t v :=
  h.other (fun e => by subst e; have h1 : W.heap[B]? = _ := h; have h2 : W.heap[B]? = _ := h'; rw [h1] at h2; cases h2; exact ht rfl) u
set_option maxRecDepth 100000 in
set_option maxHeartbeats 2000000 in
theorem catch_panicking (B Bn Be : Nat) (b1 : B ≤ Bn) (b2 : B ≤ Be) (x : ByteArray) (y r : Int) (w : World) (hn : Boxed w Bn 9 (.string x)) (he : Boxed w Be 23 (.int .i64 y)) :
    CallsD Tryz.prog 22 #[.pointer (some ⟨Bn, 0, none⟩), .pointer (some ⟨Be, 0, none⟩)] (.panicking (wrongV r)) w fun e u' w' =>
      e = .returned (.tuple #[]) ∧ u' = .panicking [{ v := .iface 45 (.agg #[.int .i64 r]), recovered := true }] ∧ Boxed w' Bn 9 (.string ⟨#[]⟩) ∧ Boxed w' Be 23 (.int .i64 r) ∧ Below B w w' := by
  have c1 := hn.cell
  have f1 := hn.frozen
  have c2 := he.cell
  have f2 := he.frozen
  unfold wrongV
  refine callsD_of_wpS Tryz.func22 rfl fun c₀ cs hu => ?_
  apply wpS_seq
  apply wpS_region
  simp [wpOpsS, go_sem, recoverD, hu, Tryz.ntmps22, Exit.thenS]
  refine wpS_of_wp ?_
  have hta : ∀ W, (Instr.typeAssert (.iface 45 (.agg #[.int .i64 r])) 20 45 false).run Tryz.prog W = .ok (.agg #[.int .i64 r]) W := fun W => by kernel_rfl
  have hfd : ∀ W, (Instr.field 45 (.agg #[.int .i64 r]) 0).run Tryz.prog W = .ok (.int .i64 r) W := fun W => by kernel_rfl
  simp only [Array.replicate_succ, Array.replicate_zero, List.push_toArray, List.append_toArray, List.nil_append, List.cons_append, List.setIfInBounds_toArray, List.set_cons_zero, List.set_cons_succ]
  have h5 := (boxed_setA he hn (by decide) (.string ⟨#[]⟩)).cell
  have h6 := (boxed_setA he hn (by decide) (.string ⟨#[]⟩)).frozen
  have HN := hid (boxed_setA (hn.set (.string ⟨#[]⟩)) (boxed_setA he hn (by decide) (.string ⟨#[]⟩)) (by decide) (.int .i64 r))
  have HE := hid ((boxed_setA he hn (by decide) (.string ⟨#[]⟩)).set (.int .i64 r))
  have HB : Hid (Below B w ((w.setCell ⟨Bn, 0, none⟩ (.string ⟨#[]⟩)).setCell ⟨Be, 0, none⟩ (.int .i64 r))) := ((Below.refl B w).setCell (p := ⟨Bn, 0, none⟩) b1 _).setCell (p := ⟨Be, 0, none⟩) b2 _
  go_wp2
  go_region
  have e1 : Boxed ((w.setCell ⟨Bn, 0, none⟩ (.string ⟨#[]⟩)).setCell ⟨Be, 0, none⟩ (.int .i64 r)).drew Bn 9 (.string ⟨#[]⟩) := HN.out
  have e2 : Boxed ((w.setCell ⟨Bn, 0, none⟩ (.string ⟨#[]⟩)).setCell ⟨Be, 0, none⟩ (.int .i64 r)).drew Be 23 (.int .i64 r) := HE.out
  have e3 := HB.out.drew
  obtain ⟨V, hV⟩ : ∃ V, ((w.setCell ⟨Bn, 0, none⟩ (.string ⟨#[]⟩)).setCell ⟨Be, 0, none⟩ (.int .i64 r)).drew = V := ⟨_, rfl⟩
  rw [hV] at e1 e2 e3 ⊢
  show bodyPostS Tryz.prog Tryz.f22 c₀ cs _ Exit.normal _ _ _
  simp [bodyPostS, results, Tryz.results22]
  exact ⟨e1, e2, e3⟩
set_option maxRecDepth 100000 in
set_option maxHeartbeats 2000000 in
theorem catch_idle (Bn Be : Nat) (w : World) :
    CallsD Tryz.prog 22 #[.pointer (some ⟨Bn, 0, none⟩), .pointer (some ⟨Be, 0, none⟩)] .returning w fun e u' w' => e = .returned (.tuple #[]) ∧ u' = .returning ∧ w' = w := by
  refine callsD_of_wpS Tryz.func22 rfl fun c₀ cs hu => ?_
  apply wpS_seq
  apply wpS_region
  simp [wpOpsS, go_sem, recoverD, hu, Tryz.ntmps22, Exit.thenS]
  refine wpS_of_wp ?_
  simp only [Array.replicate_succ, Array.replicate_zero, List.push_toArray, List.append_toArray, List.nil_append, List.cons_append, List.setIfInBounds_toArray, List.set_cons_zero, List.set_cons_succ]
  go_wp2
  cases c₀
  simp_all [bodyPostS, results, Tryz.results22]
end Go.Proofs.YtdncaehajhmcoaaGreat.I
