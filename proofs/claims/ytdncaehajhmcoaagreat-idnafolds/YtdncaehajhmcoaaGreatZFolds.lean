/- The statement IdnaFolds: capitals, and wide letters, come to the same as small ones; for every input, without any condition: the call returns true and its arguments read behind it as they read before. -/
import Derived.Test.YtdncaehajhmcoaaGreatZK6
import Derived.Test.YtdncaehajhmcoaaGreatZK7
import Derived.Test.YtdncaehajhmcoaaGreatZP8
import Derived.Test.YtdncaehajhmcoaaGreatZU3
import Derived.Test.YtdncaehajhmcoaaGreatZL6
import Derived.Test.YtdncaehajhmcoaaGreatRows
import Derived.WalkKit
import Derived.ProofKit
import Derived.OpenShut
import Derived.ShutString
import Derived.ChangeOld
import Derived.Below
/- What is answered is told by the text alone; some names; works. -/
namespace Go.Proofs.YtdncaehajhmcoaaGreat.I
open Go.RowKit
set_option linter.unusedVariables false

/-! ### One answer -/
theorem part_one_way {l p q : List Int} (h : Part l p) (k : Part l q) : p = q := by
  rcases h with ⟨h1, rfl⟩ | ⟨h1, T, hE, _, _, _, rfl⟩
  · exact ((plain_part h1 q).1 k).symm
  · rcases k with ⟨k1, _⟩ | ⟨_, T', hE', _, _, _, rfl⟩
    · rw [h1] at k1; cases k1
    · rw [hE.one hE']
theorem parts_one_way {xs : List (List Int × Int)} {ts us : List ByteArray} (h : PartsR xs ts) (k : PartsR xs us) : ts.map U.bn = us.map U.bn := by
  apply List.ext_getElem
  · simp [h.1, k.1]
  · intro i h1 h2
    rw [List.length_map] at h1 h2
    have hi : i < xs.length := by rw [← h.1]; exact h1
    have a := (h.2 i hi).2
    have b := (k.2 i hi).2
    rw [List.getElem?_eq_getElem hi, List.getElem?_eq_getElem h1] at a
    rw [List.getElem?_eq_getElem hi, List.getElem?_eq_getElem h2] at b
    simp only [List.getElem_map]
    exact part_one_way a b
/-- What ASCII says: a text, and an error. -/
def AscS (xs : List (List Int × Int)) (long : Bool) (t : ByteArray) (r : Int) : Prop :=
  (BadP xs ∧ t = ⟨#[]⟩ ∧ r = 70) ∨ (∃ ts, PartsR xs ts ∧ ((long = true ∧ badL (ts.map U.bn) ∧ t = ⟨#[]⟩ ∧ r = 4) ∨ (¬ (long = true ∧ badL (ts.map U.bn)) ∧ U.bn t = join (ts.map U.bn) ∧ r = 0)))
theorem asc_one_way {xs : List (List Int × Int)} {long : Bool} {t u : ByteArray} {r q : Int} (h : AscS xs long t r) (k : AscS xs long u q) : t = u ∧ r = q := by
  rcases h with ⟨h1, rfl, rfl⟩ | ⟨ts, h1, h2⟩
  · rcases k with ⟨k1, rfl, rfl⟩ | ⟨us, k1, _⟩
    · exact ⟨rfl, rfl⟩
    · exact absurd h1 (parts_bad k1)
  · rcases k with ⟨k1, _⟩ | ⟨us, k1, k2⟩
    · exact absurd k1 (parts_bad h1)
    · rw [parts_one_way h1 k1] at h2
      rcases h2 with ⟨a, b, rfl, rfl⟩ | ⟨a, b, rfl⟩
      · rcases k2 with ⟨_, _, rfl, rfl⟩ | ⟨c, _⟩
        · exact ⟨rfl, rfl⟩
        · exact absurd ⟨a, b⟩ c
      · rcases k2 with ⟨c, d, _⟩ | ⟨c, d, rfl⟩
        · exact absurd ⟨c, d⟩ a
        · exact ⟨P.bn_inj (b.trans d.symm), rfl⟩
/-- What ASCII answers. -/
theorem ascii_says (s : ByteArray) (hy long : Bool) (w : World) (hs : s.size ≤ 4096) :
    Calls Tryz.prog 9 #[.string s, .bool hy, .bool long] w fun e W' => (∃ t r, e = .returned (.tuple #[.string t, .int .i64 r]) ∧ AscS (prc (Mp (U.dec (U.bn s))) hy) long t r) ∧ Below w.heap.size w W' := ascii_any s hy long w hs
/-- Where the answer is known. -/
theorem ascii_is (s : ByteArray) (hy long : Bool) (w : World) (hs : s.size ≤ 4096) {t : ByteArray} {r : Int} (h : AscS (prc (Mp (U.dec (U.bn s))) hy) long t r) :
    Calls Tryz.prog 9 #[.string s, .bool hy, .bool long] w fun e W' => e = .returned (.tuple #[.string t, .int .i64 r]) ∧ Below w.heap.size w W' :=
  (ascii_says s hy long w hs).mono (by
    rintro e W' ⟨⟨t', r', rfl, h'⟩, hB⟩
    obtain ⟨rfl, rfl⟩ := asc_one_way h h'
    exact ⟨rfl, hB⟩)
theorem unicode_is (s : ByteArray) (hy : Bool) (w : World) (hs : s.size ≤ 4096) {t : ByteArray} (h : U.bn t = U.encs (join ((prc (Mp (U.dec (U.bn s))) hy).map (·.1)))) :
    Calls Tryz.prog 11 #[.string s, .bool hy] w fun e W' => e = .returned (.tuple #[.string t, .bool (noF (prc (Mp (U.dec (U.bn s))) hy))]) ∧ Below w.heap.size w W' :=
  (unicode_any s hy w hs).mono (by
    rintro e W' ⟨⟨t', rfl, h'⟩, hB⟩
    obtain rfl := P.bn_inj (h.trans h'.symm)
    exact ⟨rfl, hB⟩)

/-! ### Some names -/
def s1 : ByteArray := ⟨#[66, 195, 156, 67, 72, 69, 82, 46, 101, 120, 97, 109, 112, 108, 101]⟩
def s2 : ByteArray := ⟨#[120, 110, 45, 45, 97]⟩
def s3 : ByteArray := ⟨#[97, 46, 46, 98]⟩
def s4 : ByteArray := ⟨#[88, 78, 45, 45, 66, 67, 72, 69, 82, 45, 75, 86, 65]⟩
def exm : List Int := [101, 120, 97, 109, 112, 108, 101]
theorem spl_s1 : spl (Mp (U.dec (U.bn s1))) = [P.word, exm] := by decide +kernel
theorem spl_s2 : spl (Mp (U.dec (U.bn s2))) = [[120, 110, 45, 45, 97]] := by decide +kernel
theorem spl_s3 : spl (Mp (U.dec (U.bn s3))) = [[97], [], [98]] := by decide +kernel
theorem spl_s4 : spl (Mp (U.dec (U.bn s4))) = [[120, 110, 45, 45] ++ P.wordT] := by decide +kernel
theorem one_word (hy : Bool) : one P.word false = (P.word, 0) := by
  rw [one_a (by decide)]
  exact Prod.ext rfl (by decide +kernel)
theorem one_ex : one exm false = (exm, 0) := by
  rw [one_a (by decide)]
  exact Prod.ext rfl (by decide +kernel)
theorem prc_s1 : prc (Mp (U.dec (U.bn s1))) false = [(P.word, 0), (exm, 0)] := by
  unfold prc
  rw [spl_s1]
  simp only [List.map_cons, List.map_nil, one_word false, one_ex]
  rw [if_neg (by decide +kernel)]
theorem prc_s3 : prc (Mp (U.dec (U.bn s3))) false = [([97], 0), ([], 0), ([98], 0)] := by
  unfold prc
  rw [spl_s3]
  have e1 : one [97] false = ([97], 0) := by rw [one_a (by decide)]; exact Prod.ext rfl (by decide +kernel)
  have e2 : one [] false = ([], 0) := by rw [one_a (by decide)]; rfl
  have e3 : one [98] false = ([98], 0) := by rw [one_a (by decide)]; exact Prod.ext rfl (by decide +kernel)
  simp only [List.map_cons, List.map_nil, e1, e2, e3]
  rw [if_neg (by decide +kernel)]
theorem prc_s4 : prc (Mp (U.dec (U.bn s4))) false = [(P.word, 0)] := by
  have e1 : one ([120, 110, 45, 45] ++ P.wordT) false = (P.word, 0) := (part_one (hy := false) (l := P.word) (by decide +kernel) (.inr ⟨by decide, P.wordT, P.word_enc, by decide, by decide, by decide, rfl⟩)).1
  unfold prc
  rw [spl_s4]
  simp only [List.map_cons, List.map_nil, e1]
  rw [if_neg (by decide +kernel)]
theorem enc_80 : P.Enc [128] [97] := by
  refine ⟨[0], ?_, by decide⟩
  show _ = P.hd (P.plain [128]) ++ ([] ++ P.wn 72 36 0)
  rw [P.wn_less 72 36 0 (by decide)]
  decide
theorem bad_s2 : BadP (prc (Mp (U.dec (U.bn s2))) false) := by
  have e1 : one [120, 110, 45, 45, 97] false = ([128], L.flt [128] false) := by
    have hd := (P.dec_enc enc_80 (by decide) (by decide)).1
    unfold one
    rw [if_neg (by decide), if_neg (by decide)]
    have : rdx (List.drop 4 [120, 110, 45, 45, 97]) = some [128] := by
      show rdx [97] = _
      unfold rdx
      rw [if_neg (by decide), if_neg (by decide), hd]
    rw [this]
    rfl
  have hf : L.flt [128] false ≠ 0 := by decide +kernel
  have e2 : prc (Mp (U.dec (U.bn s2))) false = [([128], L.flt [128] false)] := by
    unfold prc
    rw [spl_s2]
    simp only [List.map_cons, List.map_nil, e1]
    rw [if_neg (by decide +kernel)]
  rw [e2]
  exact ⟨_, List.mem_singleton.2 rfl, .inl hf⟩
def t1 : ByteArray := ⟨#[120, 110, 45, 45, 98, 99, 104, 101, 114, 45, 107, 118, 97, 46, 101, 120, 97, 109, 112, 108, 101]⟩
def t4 : ByteArray := ⟨#[98, 195, 188, 99, 104, 101, 114]⟩
theorem says1 : AscS (prc (Mp (U.dec (U.bn s1))) false) true t1 0 := by
  rw [prc_s1]
  refine .inr ⟨[⟨#[120, 110, 45, 45, 98, 99, 104, 101, 114, 45, 107, 118, 97]⟩, ⟨#[101, 120, 97, 109, 112, 108, 101]⟩], ?_, .inr ⟨?_, by decide, rfl⟩⟩
  · have h1 : PartsR ([] ++ [(P.word, 0)]) ([] ++ [⟨#[120, 110, 45, 45, 98, 99, 104, 101, 114, 45, 107, 118, 97]⟩]) := PartsR.nil.snoc rfl (.inr ⟨by decide, P.wordT, P.word_enc, by decide, by decide, by decide, by decide⟩)
    exact h1.snoc (x := (exm, 0)) rfl (.inl ⟨by decide, by decide⟩)
  · rintro ⟨_, ⟨p, hp, hno⟩ | h⟩
    · have hc : cps ([(⟨#[120, 110, 45, 45, 98, 99, 104, 101, 114, 45, 107, 118, 97]⟩ : ByteArray), ⟨#[101, 120, 97, 109, 112, 108, 101]⟩].map U.bn) = [[120, 110, 45, 45, 98, 99, 104, 101, 114, 45, 107, 118, 97], [101, 120, 97, 109, 112, 108, 101]] := by decide
      rw [hc] at hp
      apply hno
      simp at hp
      rcases hp with rfl | rfl
      · exact ⟨by decide, by decide⟩
      · exact ⟨by decide, by decide⟩
    · revert h; decide
theorem says3 : AscS (prc (Mp (U.dec (U.bn s3))) false) true ⟨#[]⟩ 4 := by
  rw [prc_s3]
  refine .inr ⟨[⟨#[97]⟩, ⟨#[]⟩, ⟨#[98]⟩], ?_, .inl ⟨rfl, ?_, rfl, rfl⟩⟩
  · have h1 : PartsR ([] ++ [([97], 0)]) ([] ++ [⟨#[97]⟩]) := PartsR.nil.snoc rfl (.inl ⟨by decide, by decide⟩)
    have h2 := h1.snoc (x := ([], 0)) (t := ⟨#[]⟩) rfl (.inl ⟨by decide, by decide⟩)
    exact h2.snoc (x := ([98], 0)) rfl (.inl ⟨by decide, by decide⟩)
  · refine .inl ⟨[], ?_, fun h => h.1 rfl⟩
    have hc : cps ([(⟨#[97]⟩ : ByteArray), ⟨#[]⟩, ⟨#[98]⟩].map U.bn) = [[97], [], [98]] := by decide
    rw [hc]
    simp
theorem uni4 : U.bn t4 = U.encs (join ((prc (Mp (U.dec (U.bn s4))) false).map (·.1))) := by
  rw [prc_s4]; decide
theorem noF4 : noF (prc (Mp (U.dec (U.bn s4))) false) = true := by rw [prc_s4]; rfl
set_option maxRecDepth 100000 in
set_option maxHeartbeats 4000000 in
theorem works_any (w : World) : Calls Tryz.prog 8 #[] w fun e W' => e = .returned (.bool true) ∧ Below w.heap.size w W' := by
  have H1 := hid (fun W => ascii_is s1 false true W (by decide) says1)
  have H2 := hid (fun W => ascii_is s2 false false W (by decide) (.inl ⟨bad_s2, rfl, rfl⟩))
  have H3 := hid (fun W => ascii_is s3 false true W (by decide) says3)
  have H4 := hid (fun W => unicode_is s4 false W (by decide) uni4)
  rw [noF4] at H4
  unfold s1 t1 at H1
  unfold s2 at H2
  unfold s3 at H3
  unfold s4 t4 at H4
  go_enter Tryz.func8, Tryz.ntmps8
  go_wp2_with fail
  refine (H1.out _).mono ?_
  rintro e w1 ⟨rfl, B1⟩
  have HB1 := hid B1
  clear B1
  go_wp2_with fail
  refine (H2.out _).mono ?_
  rintro e w2 ⟨rfl, B2⟩
  have HB2 := hid (HB1.out.trans (B2.mono HB1.out.size))
  clear B2
  go_wp2_with fail
  refine (H3.out _).mono ?_
  rintro e w3 ⟨rfl, B3⟩
  have HB3 := hid (HB2.out.trans (B3.mono HB2.out.size))
  clear B3
  go_wp2_with fail
  refine (H4.out _).mono ?_
  rintro e w4 ⟨rfl, B4⟩
  have HB4 := hid (HB3.out.trans (B4.mono HB3.out.size))
  clear B4
  go_wp2
  go_ret
  exact ⟨rfl, HB4.out⟩
end Go.Proofs.YtdncaehajhmcoaaGreat.I
/- IdnaPlain: the walk. -/
namespace Go.Proofs.YtdncaehajhmcoaaGreat.I
open Go.RowKit
set_option linter.unusedVariables false

theorem ex_bn (l : List Int) (h : U.Bytes l) : ∃ t : ByteArray, U.bn t = l := by
  refine ⟨⟨(l.map fun c => UInt8.ofNat c.toNat).toArray⟩, ?_⟩
  unfold U.bn
  rw [List.toList_toArray, List.map_map]
  conv => rhs; rw [← List.map_id l]
  apply List.map_congr_left
  intro c hc
  have := h c hc
  show (((UInt8.ofNat c.toNat).toNat : Nat) : Int) = c
  rw [UInt8.toNat_ofNat', Nat.mod_eq_of_lt (by omega)]
  omega
theorem ex_bns : ∀ (ls : List (List Int)), (∀ l ∈ ls, U.Bytes l) → ∃ ts : List ByteArray, ts.map U.bn = ls
  | [], _ => ⟨[], rfl⟩
  | l :: ls, h => by
    obtain ⟨t, ht⟩ := ex_bn l (h l (by simp))
    obtain ⟨ts, hts⟩ := ex_bns ls (fun x hx => h x (by simp [hx]))
    exact ⟨t :: ts, by rw [List.map_cons, ht, hts]⟩
def ldd (c : Int) : Prop := ld c ∨ c = 46
theorem ldd_prc {l : List Int} (h : ∀ c ∈ l, ldd c) (hy : Bool) : prc (Mp (U.dec l)) hy = (spl l).map fun x => (x, 0) := by
  have hasc : ∀ c ∈ l, 0 ≤ c ∧ c < 128 := fun c hc => by
    have := h c hc
    unfold ldd ld at this
    omega
  have hd : U.dec l = l := P.dec_asc _ (fun c hc => by have := hasc c hc; omega) (by
    unfold P.asc
    rw [List.all_eq_true]
    intro c hc
    exact decide_eq_true (hasc c hc).2)
  have hM : Mp l = l := by
    unfold Mp
    rw [map_valid _ (fun r hr => .inl (ldh_valid r (by have := h r hr; unfold ldd ld at this; omega)))]
    exact (ascii_nfc l hasc).1
  have hl : ∀ x ∈ spl l, ∀ c ∈ x, ld c := fun x hx c hc => by
    have h1 := spl_dots l x hx
    have key : ∀ (ls : List (List Int)), x ∈ ls → c ∈ join ls := by
      intro ls
      induction ls with
      | nil => intro h; simp at h
      | cons b t ih =>
        intro hm
        cases t with
        | nil => simp at hm; rw [← hm]; exact hc
        | cons d t =>
          rw [join]
          rcases List.mem_cons.1 hm with rfl | hm
          · simp [hc]
          · have := ih hm
            simp [this]
    have h2 := h c (by rw [← join_spl l]; exact key _ hx)
    rcases h2 with h2 | rfl
    · exact h2
    · exact absurd hc h1
  have hm : (spl l).map (fun x => one x hy) = (spl l).map fun x => (x, 0) := List.map_congr_left (fun x hx => one_fine (ld_flt x hy (hl x hx)))
  rw [hd, hM]
  unfold prc
  rw [hm]
  have hr : anyR ((spl l).map fun x => (x, (0 : Int))) = false := by
    unfold anyR
    rw [any_map, List.any_eq_false]
    intro x hx
    have := ld_right x (hl x hx)
    simp [this]
  rw [if_neg (by rw [hr]; decide)]
theorem ldd_says {t : ByteArray} (h : ∀ c ∈ U.bn t, ldd c) (hy : Bool) : AscS (prc (Mp (U.dec (U.bn t))) hy) false t 0 ∧ U.bn t = U.encs (join ((prc (Mp (U.dec (U.bn t))) hy).map (·.1))) ∧ noF (prc (Mp (U.dec (U.bn t))) hy) = true := by
  rw [ldd_prc h hy]
  have hpl : ∀ x ∈ spl (U.bn t), ∀ c ∈ x, 0 ≤ c ∧ c < 128 := fun x hx c hc => by
    have key : ∀ (ls : List (List Int)), x ∈ ls → c ∈ join ls := by
      intro ls
      induction ls with
      | nil => intro h; simp at h
      | cons b t ih =>
        intro hm
        cases t with
        | nil => simp at hm; rw [← hm]; exact hc
        | cons d t =>
          rw [join]
          rcases List.mem_cons.1 hm with rfl | hm
          · simp [hc]
          · have := ih hm
            simp [this]
    have h2 := h c (by rw [← join_spl (U.bn t)]; exact key _ hx)
    unfold ldd ld at h2
    omega
  refine ⟨?_, ?_, ?_⟩
  · obtain ⟨ts, hts⟩ := ex_bns (spl (U.bn t)) (fun x hx c hc => by have := hpl x hx c hc; omega)
    refine .inr ⟨ts, ⟨?_, fun i hi => ?_⟩, .inr ⟨fun h => absurd h.1 (by decide), by rw [hts, join_spl], rfl⟩⟩
    · rw [List.length_map, ← hts, List.length_map]
    · rw [List.length_map] at hi
      have hit : i < ts.length := by have := congrArg List.length hts; rw [List.length_map] at this; omega
      rw [List.getElem?_map, List.getElem?_eq_getElem hi, List.getElem?_eq_getElem hit]
      refine ⟨rfl, .inl ⟨plain_iff.2 (hpl _ (List.getElem_mem hi)), ?_⟩⟩
      have : (ts.map U.bn)[i]? = (spl (U.bn t))[i]? := by rw [hts]
      rw [List.getElem?_map, List.getElem?_eq_getElem hit, List.getElem?_eq_getElem hi] at this
      exact Option.some.inj this
  · rw [List.map_map]
    have : ((·.1) ∘ fun x : List Int => (x, (0 : Int))) = id := rfl
    rw [this, List.map_id, join_spl, encs_plain (fun c hc => by have := h c hc; unfold ldd ld at this; omega)]
  · unfold noF
    rw [List.all_eq_true]
    intro x hx
    obtain ⟨y, _, rfl⟩ := List.mem_map.1 hx
    rfl
def abc : ByteArray := ⟨#[97, 98, 99, 100, 101, 102, 103, 104, 105, 106, 107, 108, 109, 110, 111, 112, 113, 114, 115, 116, 117, 118, 119, 120, 121, 122, 48, 49, 50, 51, 52, 53, 54, 55, 56, 57]⟩
theorem abc_at : ∀ n : Fin 36, ∃ c, U.bn (abc.extract n.val (n.val + 1)) = [c] ∧ (97 ≤ c ∧ c ≤ 122 ∨ 48 ≤ c ∧ c ≤ 57) := by
  have : ∀ n : Fin 36, (U.bn (abc.extract n.val (n.val + 1))).length = 1 ∧ (97 ≤ (U.bn (abc.extract n.val (n.val + 1))).headD 0 ∧ (U.bn (abc.extract n.val (n.val + 1))).headD 0 ≤ 122 ∨ 48 ≤ (U.bn (abc.extract n.val (n.val + 1))).headD 0 ∧ (U.bn (abc.extract n.val (n.val + 1))).headD 0 ≤ 57) := by decide +kernel
  intro n
  obtain ⟨h1, h2⟩ := this n
  generalize U.bn (abc.extract n.val (n.val + 1)) = e at h1 h2
  match e, h1 with
  | [x], _ => exact ⟨x, rfl, h2⟩
theorem u8_wf {d : Int} (h : (Lit.int .u8 d).wf = true) : 0 ≤ d ∧ d ≤ 255 := by
  simp [Lit.wf, IntKind.min, IntKind.max, IntKind.bits, IntKind.signed] at h
  omega
theorem u8_cells {w : World} {a : Option Addr} {len cap : Nat} {zs : List Int} (h : U.IsRow .u8 w a len cap zs) (k : Nat) (hk : k < len) : ∃ b off d, a = some ⟨b, off, none⟩ ∧ w.cell? ⟨b, off + k, none⟩ = some (.int .u8 d) ∧ 0 ≤ d ∧ d ≤ 255 := by
  rcases h with ⟨_, rfl, _⟩ | ⟨x, rfl, hl, _, hz, hc, hw⟩
  · omega
  · obtain ⟨b, off, rfl, hc'⟩ := ints_at hc (by omega)
    refine ⟨b, off, zs.getD k 0, rfl, hc' k (by omega), u8_wf (hw _ ?_)⟩
    rw [List.getD_eq_getElem?_getD, List.getElem?_eq_getElem (by omega)]
    exact List.getElem_mem _
theorem last_at {t : ByteArray} {z : Nat} (h : z < t.size) : ((t[z].toNat : Nat) : Int) = (U.bn t)[z]?.getD 0 := (P.bn_get t z h).symm
theorem self_eqC (t : ByteArray) : (t.toList == t.toList) = true := by rw [U.str_eq_bn]; exact decide_eq_true rfl
set_option maxRecDepth 100000 in
set_option maxHeartbeats 8000000 in
theorem plain_walk (s : ByteArray) (a : Option Addr) (len cap : Nat) (zs : List Int) (w : World) (hs : s.size ≤ maxLen) (hr : U.IsRow .u8 w a len cap zs) :
    Calls Tryz.prog 7 #[.string s, .slice a len cap] w fun e W' => e = .returned (.bool true) ∧ Below w.heap.size w W' := by
  have hm := U.row_max hr
  unfold maxLen at hs hm
  by_cases h3 : 300 < s.size
  · go_enter Tryz.func7, Tryz.ntmps7
    go_wp2_with (go_at_call 8; refine (works_any _).mono ?_; rintro e w1 ⟨rfl, B1⟩)
    go_ret
    exact ⟨rfl, B1⟩
  · by_cases h60 : 60 < len
    · have h3z : ¬ (300 : Int) < (s.size : Int) := by omega
      go_enter Tryz.func7, Tryz.ntmps7
      go_wp2_with (go_at_call 8; refine (works_any _).mono ?_; rintro e w1 ⟨rfl, B1⟩)
      go_ret
      exact ⟨rfl, B1⟩
    · have h3z : (s.size : Int) ≤ 300 := by omega
      have h60z : (len : Int) ≤ 60 := by omega
      have HC := hid (fun k hk => u8_cells hr k hk)
      have HABC := hid abc_at
      unfold abc at HABC
      clear hr
      go_enter Tryz.func7, Tryz.ntmps7
      go_wp2_with fail
      go_loop [5, 6] (fun v5 v6 => ∃ (i : Nat) (T : ByteArray), i ≤ s.size ∧ v6 = .int .i64 i ∧ v5 = .string T ∧ i ≤ T.size ∧ T.size ≤ 2 * i ∧ Hid (∀ c ∈ U.bn T, ldd c)) (fun _ v6 => s.size - (intOf v6).toNat)
      case atStart => exact ⟨0, ⟨#[]⟩, Nat.zero_le _, rfl, rfl, Nat.le_refl _, Nat.le_refl _, (fun c hc => by simp [U.bn] at hc)⟩
      case round =>
        obtain ⟨i, T, hi, rfl, rfl, hT1, hT2, HT⟩ := hrel
        by_cases hlt : i < s.size
        · go_wp2_with fail
          go_loop [5, 7] (fun v5 v7 => ∃ (k : Nat) (T : ByteArray), k ≤ len ∧ v7 = .int .i64 k ∧ v5 = .string T ∧ i ≤ T.size ∧ T.size ≤ 2 * i + 1 ∧ Hid (T.size = 2 * i + 1 → (U.bn T)[T.size - 1]?.getD 0 = 46) ∧ Hid (∀ c ∈ U.bn T, ldd c)) (fun _ v7 => len - (intOf v7).toNat)
          case atStart => exact ⟨0, T, Nat.zero_le _, rfl, rfl, hT1, by omega, (fun h => by omega), HT⟩
          case round =>
            clear hT1 hT2 HT
            obtain ⟨k, T, hk, rfl, rfl, hT1, hT2, HL, HT⟩ := hrel
            by_cases hkl : k < len
            · obtain ⟨b, off, d, rfl, hck, hd0, hd1⟩ := HC.out k hkl
              by_cases hdi : d = (i : Int)
              · by_cases hi0 : 0 < i
                · obtain ⟨z, hz⟩ : ∃ z, T.size = z + 1 := ⟨T.size - 1, by omega⟩
                  have hzl : z < T.size := by omega
                  have hzi : (T.size : Int) - 1 = (z : Int) := by omega
                  have hzw : IntKind.i64.wrap (z : Int) = (z : Int) := by simp [IntKind.wrap, IntKind.bits, IntKind.signed]; omega
                  have HZ := hid hz
                  have HLA := hid (last_at hzl)
                  have hi0z : (0 : Int) < (i : Int) := by omega
                  clear hz
                  subst hdi
                  have HSZ : Hid ((T ++ ⟨#[46]⟩).size = T.size + 1) := by show _ = _; rw [ByteArray.size_append]; rfl
                  have HBN : Hid (U.bn (T ++ ⟨#[46]⟩) = U.bn T ++ [46]) := by show _ = _; rw [U.bn_append]; rfl
                  by_cases h46 : ((T[z].toNat : Nat) : Int) = 46
                  · have h46b : (((T[z].toNat : Nat) : Int) != 46) = false := by simpa using h46
                    have h46c : (((T[z].toNat : Nat) : Int) == 46) = true := by simpa using h46
                    clear h46
                    go_wp2
                    exact ⟨⟨k + 1, T, by omega, by go_num, rfl, hT1, hT2, HL, HT⟩, by simp [intOf]; omega⟩
                  · have h46b : (((T[z].toNat : Nat) : Int) != 46) = true := by simpa using h46
                    have h46c : (((T[z].toNat : Nat) : Int) == 46) = false := by simpa using h46
                    have HNE : Hid (T.size ≠ 2 * i + 1) := fun h => by
                      have h1 := HL.out h
                      rw [HZ.out, Nat.add_sub_cancel, ← HLA.out] at h1
                      exact h46 h1
                    clear h46
                    go_wp2
                    refine ⟨⟨k + 1, T ++ ⟨#[46]⟩, by omega, by go_num, rfl, by rw [HSZ.out]; omega, by rw [HSZ.out]; have := HNE.out; omega, (fun _ => ?_), ?_⟩, by simp [intOf]; omega⟩
                    · rw [HSZ.out, HBN.out, Nat.add_sub_cancel, List.getElem?_append_right (by rw [U.bn_length]; exact Nat.le_refl _), U.bn_length, Nat.sub_self]; rfl
                    · intro c hc
                      rw [HBN.out] at hc
                      rcases List.mem_append.1 hc with hc | hc
                      · exact HT.out c hc
                      · simp at hc; exact .inr hc
                · obtain rfl : i = 0 := by omega
                  subst hdi
                  go_wp2
                  all_goals exact ⟨⟨k + 1, T, by omega, by go_num, rfl, hT1, hT2, HL, HT⟩, by simp [intOf]; omega⟩
              · have hdb : (d == (i : Int)) = false := by simpa using hdi
                go_wp2
                exact ⟨⟨k + 1, T, by omega, by go_num, rfl, hT1, hT2, HL, HT⟩, by simp [intOf]; omega⟩
            · obtain rfl : k = len := by omega
              obtain ⟨n, hn⟩ : ∃ n : Nat, (s[i].toNat) % 36 = n := ⟨_, rfl⟩
              have hnl : n < 36 := by omega
              have hnz : ((s[i].toNat : Nat) : Int) % 36 = (n : Int) := by omega
              have hsb : s[i].toNat < 256 := s[i].toNat_lt
              have hnt : Int.tmod ((s[i].toNat : Nat) : Int) 36 = (n : Int) := by rw [Int.tmod_eq_emod_of_nonneg (by omega)]; exact hnz
              have hw1 : wrap64 ((s[i].toNat : Nat) : Int) = ((s[i].toNat : Nat) : Int) := by simp [wrap64]; omega
              have hw2 : wrap64 ((n : Int) + 1) = (n : Int) + 1 := by simp [wrap64]; omega
              obtain ⟨c, hc1, hc2⟩ := HABC.out ⟨n, hnl⟩
              have HC1 := hid hc1
              have HC2 := hid hc2
              clear hc1 hc2 hn hnz hsb
              obtain ⟨x, hx⟩ : ∃ x : Int, ((s[i].toNat : Nat) : Int) = x := ⟨_, rfl⟩
              rw [hx] at hnt hw1
              go_wp2
              obtain ⟨q, hq⟩ : ∃ q : ByteArray, (⟨#[97, 98, 99, 100, 101, 102, 103, 104, 105, 106, 107, 108, 109, 110, 111, 112, 113, 114, 115, 116, 117, 118, 119, 120, 121, 122, 48, 49, 50, 51, 52, 53, 54, 55, 56, 57]⟩ : ByteArray).extract n (n + 1) = q := ⟨_, rfl⟩
              have hqb : U.bn q = [c] := by rw [← hq]; exact HC1.out
              have hqs : q.size = 1 := by rw [← U.bn_length, hqb]; rfl
              rw [hq]
              refine ⟨⟨i + 1, T ++ q, by omega, by go_num, rfl, by rw [ByteArray.size_append, hqs]; omega, by rw [ByteArray.size_append, hqs]; omega, ?_⟩, by simp [intOf]; omega⟩
              intro y hy
              rw [U.bn_append, hqb] at hy
              rcases List.mem_append.1 hy with hy | hy
              · exact HT.out y hy
              · simp at hy
                rw [hy]
                exact .inl HC2.out
        · obtain rfl : i = s.size := by omega
          have hq := ldd_says HT.out true
          have HA := hid (fun W => ascii_is T true false W (by omega) hq.1)
          have HU := hid (fun W => unicode_is T true W (by omega) hq.2.1)
          rw [hq.2.2] at HU
          have hse := self_eqC T
          clear hq
          go_wp2_with fail
          refine (HA.out _).mono ?_
          rintro e w1 ⟨rfl, B1⟩
          have HB1 := hid B1
          clear B1
          go_wp2_with fail
          refine (HU.out _).mono ?_
          rintro e w2 ⟨rfl, B2⟩
          have HB2 := hid (HB1.out.trans (B2.mono HB1.out.size))
          clear B2
          go_wp2_with (go_at_call 8; refine (works_any _).mono ?_; rintro e w3 ⟨rfl, B3⟩)
          go_ret
          exact ⟨rfl, HB2.out.trans (B3.mono HB2.out.size)⟩
end Go.Proofs.YtdncaehajhmcoaaGreat.I
/- IdnaFolds: the walk. -/
namespace Go.Proofs.YtdncaehajhmcoaaGreat.I
open Go.RowKit
set_option linter.unusedVariables false

theorem Alts.snoc : ∀ {s t : List Int}, Alts s t → ∀ {c : Int} {g : List Int}, Alt c g → Alts (s ++ [c]) (t ++ g) := by
  intro s t h
  induction h using Alts.cut with
  | nil =>
    intro c g hg
    have := Alts.cons hg Alts.nil
    simpa using this
  | @cons d k s t ha hs ih =>
    intro c g hg
    rw [List.append_assoc]
    exact Alts.cons ha (ih hg)
theorem wide_enc : ∀ c : Fin 128, (97 ≤ c.val ∧ c.val ≤ 122 ∨ 48 ≤ c.val ∧ c.val ≤ 57) → U.bn (runesBytes [(c.val : Int) + 65248]) = U.enc ((c.val : Int) + 65248) ∧ (runesBytes [(c.val : Int) + 65248]).size = 3 := by decide +kernel
theorem byte_at (s : ByteArray) (k : Nat) (h : k < s.size) : (U.bn s).take (k + 1) = (U.bn s).take k ++ [((s[k].toNat : Nat) : Int)] := by
  rw [U.take_snoc_int _ k (by rw [U.bn_length]; exact h), P.bn_get s k h]
/-- One byte, as a text. -/
theorem conv_byte (w : World) (x : Int) (h0 : 0 ≤ x) (h1 : x ≤ 255) : ∃ q : ByteArray, (convert 39 9 (.slice (some ⟨w.heap.size, 0, none⟩) 1 1)).run Tryz.prog (w.alloc (.cells #[.int .u8 x] 5)) = .ok (.string q) (w.alloc (.cells #[.int .u8 x] 5)) ∧ U.bn q = [x] ∧ q.size = 1 := by
  have hrow : (w.alloc (.cells #[.int .u8 x] 5)).ownsRow w.heap.size 5 1 (.slice (some ⟨w.heap.size, 0, none⟩) 1 1) 1 ([x].map (Value.int .u8)) :=
    ⟨rfl, .inr ⟨w.heap.size, 1, _, rfl, Nat.le_refl _, World.alloc_heap_new w _, Nat.le_refl _, by unfold maxLen; omega, rfl, rfl⟩⟩
  obtain ⟨q, h, hq⟩ := U.conv_string _ w.heap.size _ 1 [x] rfl (fun b hb => by simp at hb; omega) hrow
  exact ⟨q, h, hq, by rw [← U.bn_length, hq]; rfl⟩
theorem conv_rune (w : World) (x : Int) : (convert 34 9 (.slice (some ⟨w.heap.size, 0, none⟩) 1 1)).run Tryz.prog (w.alloc (.cells #[.int .i32 x] 21)) = .ok (.string (runesBytes [x])) (w.alloc (.cells #[.int .i32 x] 21)) :=
  run_convert_runes _ 34 9 21 ⟨w.heap.size, 0, none⟩ 1 1 [x] (Nat.le_refl _) Tryz.underlying34 Tryz.underlying21 Tryz.underlying9 (fun j hj => by
    have hj0 : j = 0 := by simp only [List.length_cons, List.length_nil] at hj; omega
    subst hj0
    rw [U.addr_add0]
    exact (Boxed.new w 21 (.int .i32 x)).cell)
/-- What a round adds. -/
def Grows (s : ByteArray) (i : Nat) (T q : ByteArray) (x : Int) : Prop := Alt x (U.bn q) ∧ q.size ≤ 3
theorem folds_same {s T : ByteArray} (hy : Bool) (h : Alts (U.bn s) (U.bn T)) : prc (Mp (U.dec (U.bn T))) hy = prc (Mp (U.dec (U.bn s))) hy := by
  have := alts_map (U.bn s).length (U.bn s) (U.bn T) (Nat.le_refl _) (U.bn_bytes s) h
  unfold Mp
  rw [this]
set_option maxRecDepth 100000 in
set_option maxHeartbeats 16000000 in
theorem folds_walk (s : ByteArray) (a : Option Addr) (len cap : Nat) (zs : List Int) (hy : Bool) (w : World) (hs : s.size ≤ maxLen) (hr : U.IsRow .u8 w a len cap zs) :
    Calls Tryz.prog 5 #[.string s, .slice a len cap, .bool hy] w fun e W' => e = .returned (.bool true) ∧ Below w.heap.size w W' := by
  have hm := U.row_max hr
  unfold maxLen at hs hm
  by_cases h3 : 600 < s.size
  · go_enter Tryz.func5, Tryz.ntmps5
    go_wp2_with (go_at_call 8; refine (works_any _).mono ?_; rintro e w1 ⟨rfl, B1⟩)
    go_ret
    exact ⟨rfl, B1⟩
  · by_cases h60 : 600 < len
    · have h3z : ¬ (600 : Int) < (s.size : Int) := by omega
      go_enter Tryz.func5, Tryz.ntmps5
      go_wp2_with (go_at_call 8; refine (works_any _).mono ?_; rintro e w1 ⟨rfl, B1⟩)
      go_ret
      exact ⟨rfl, B1⟩
    · have h3z : (s.size : Int) ≤ 600 := by omega
      have h60z : (len : Int) ≤ 600 := by omega
      have HC := hid (fun k hk => u8_cells hr k hk)
      clear hr
      go_enter Tryz.func5, Tryz.ntmps5
      go_wp2_with fail
      go_loopw [7, 8] (fun v7 v8 wr => ∃ (i : Nat) (T : ByteArray), i ≤ s.size ∧ v8 = .int .i64 i ∧ v7 = .string T ∧ T.size ≤ 3 * i ∧ Hid (Alts ((U.bn s).take i) (U.bn T)) ∧ Hid (Below w.heap.size w wr)) (fun _ v8 _ => s.size - (intOf v8).toNat)
      case atStart => exact ⟨0, ⟨#[]⟩, Nat.zero_le _, rfl, rfl, Nat.le_refl _, Alts.nil, Below.refl _ _⟩
      case round =>
        obtain ⟨i, T, hi, rfl, rfl, hT, HA, HB⟩ := hrel
        by_cases hlt : i < s.size
        · have HBA := hid (byte_at s i hlt)
          have hxb := s[i].toNat_lt
          obtain ⟨x, hx⟩ : ∃ x : Int, ((s[i].toNat : Nat) : Int) = x := ⟨_, rfl⟩
          have hx0 : 0 ≤ x := by omega
          have hx1 : x ≤ 255 := by omega
          rw [hx] at HBA
          -- how a text q is added
          have HADD : Hid (∀ (q : ByteArray), Alt x (U.bn q) → q.size ≤ 3 → (T ++ q).size ≤ 3 * (i + 1) ∧ Hid (Alts ((U.bn s).take (i + 1)) (U.bn (T ++ q)))) := fun q h1 h2 => by
            refine ⟨by rw [ByteArray.size_append]; omega, ?_⟩
            show Alts _ _
            rw [HBA.out, U.bn_append]
            exact HA.out.snoc h1
          by_cases hil : i < len
          · obtain ⟨b, off, d, rfl, hck0, hd0, hd1⟩ := HC.out i hil
            have hck : wr.cell? ⟨b, off + i, none⟩ = some (.int .u8 d) := (HB.out.cell (p := ⟨b, off + i, none⟩) (U.lt_of_cell hck0)).trans hck0
            obtain ⟨p, hp⟩ : ∃ p : Int, d % 3 = p := ⟨_, rfl⟩
            have hpt : Int.tmod d 3 = p := by rw [Int.tmod_eq_emod_of_nonneg hd0]; exact hp
            have hp0 : 0 ≤ p := by omega
            have hp2 : p ≤ 2 := by omega
            have hpw : IntKind.u8.wrap p = p := by simp [IntKind.wrap, IntKind.bits, IntKind.signed]; omega
            clear hp hck0
            by_cases hL : 97 ≤ x ∧ x ≤ 122
            · obtain ⟨hl1, hl2⟩ := hL
              by_cases h1 : p = 1
              · subst h1
                obtain ⟨q, hcv, hq1, hq2⟩ := conv_byte wr (x - 32) (by omega) (by omega)
                have HQ : Hid (Alt x (U.bn q) ∧ q.size ≤ 3) := ⟨by rw [hq1]; exact Alt.cap x ⟨hl1, hl2⟩, by omega⟩
                have hqs : q.size ≤ 3 := by omega
                clear hq1 hq2
                have hxs : IntKind.u8.wrap (x - 32) = x - 32 := by simp [IntKind.wrap, IntKind.bits, IntKind.signed]; omega
                go_wp2
                go_roundw
                case rel =>
                  have hA := HADD.out q HQ.out.1 HQ.out.2
                  exact ⟨i + 1, T ++ q, by omega, by go_num, rfl, hA.1, hA.2, HB.out.alloc HB.out.size _⟩
                case measure => simp [intOf]; omega
              · by_cases h2 : p = 2
                · subst h2
                  have hcv := conv_rune wr (x + 65248)
                  have hq : U.bn (runesBytes [x + 65248]) = U.enc (x + 65248) ∧ (runesBytes [x + 65248]).size = 3 := by
                    obtain ⟨k, hk⟩ : ∃ k : Nat, x = k := ⟨x.toNat, by omega⟩
                    rw [hk]
                    exact wide_enc ⟨k, by omega⟩ (by simp only; omega)
                  obtain ⟨q, hqe⟩ : ∃ q, runesBytes [x + 65248] = q := ⟨_, rfl⟩
                  rw [hqe] at hcv hq
                  have HQ : Hid (Alt x (U.bn q) ∧ q.size ≤ 3) := ⟨by rw [hq.1]; exact Alt.wide x (by omega), by omega⟩
                  have hqs : q.size ≤ 3 := by omega
                  have hxw : IntKind.i32.wrap x = x := by simp [IntKind.wrap, IntKind.bits, IntKind.signed]; omega
                  have hxv : IntKind.i32.wrap (x + 65248) = x + 65248 := by simp [IntKind.wrap, IntKind.bits, IntKind.signed]; omega
                  clear hq hqe
                  go_wp2
                  go_roundw
                  case rel =>
                    have hA := HADD.out q HQ.out.1 HQ.out.2
                    exact ⟨i + 1, T ++ q, by omega, by go_num, rfl, hA.1, hA.2, HB.out.alloc HB.out.size _⟩
                  case measure => simp [intOf]; omega
                · obtain rfl : p = 0 := by omega
                  obtain ⟨q, hcv, hq1, hq2⟩ := conv_byte wr (x) (by omega) (by omega)
                  have HQ : Hid (Alt x (U.bn q) ∧ q.size ≤ 3) := ⟨by rw [hq1]; exact Alt.same x, by omega⟩
                  have hqs : q.size ≤ 3 := by omega
                  clear hq1 hq2
                  go_wp2
                  all_goals (
                    go_roundw
                    case rel =>
                      have hA := HADD.out q HQ.out.1 HQ.out.2
                      exact ⟨i + 1, T ++ q, by omega, by go_num, rfl, hA.1, hA.2, HB.out.alloc HB.out.size _⟩
                    case measure => simp [intOf]; omega)
            · by_cases hD : 48 ≤ x ∧ x ≤ 57
              · obtain ⟨hl1, hl2⟩ := hD
                by_cases h0 : p = 0
                · subst h0
                  obtain ⟨q, hcv, hq1, hq2⟩ := conv_byte wr (x) (by omega) (by omega)
                  have HQ : Hid (Alt x (U.bn q) ∧ q.size ≤ 3) := ⟨by rw [hq1]; exact Alt.same x, by omega⟩
                  have hqs : q.size ≤ 3 := by omega
                  clear hq1 hq2
                  go_wp2
                  all_goals (
                    go_roundw
                    case rel =>
                      have hA := HADD.out q HQ.out.1 HQ.out.2
                      exact ⟨i + 1, T ++ q, by omega, by go_num, rfl, hA.1, hA.2, HB.out.alloc HB.out.size _⟩
                    case measure => simp [intOf]; omega)
                · have hpp : 0 < p := by omega
                  have hcv := conv_rune wr (x + 65248)
                  have hq : U.bn (runesBytes [x + 65248]) = U.enc (x + 65248) ∧ (runesBytes [x + 65248]).size = 3 := by
                    obtain ⟨k, hk⟩ : ∃ k : Nat, x = k := ⟨x.toNat, by omega⟩
                    rw [hk]
                    exact wide_enc ⟨k, by omega⟩ (by simp only; omega)
                  obtain ⟨q, hqe⟩ : ∃ q, runesBytes [x + 65248] = q := ⟨_, rfl⟩
                  rw [hqe] at hcv hq
                  have HQ : Hid (Alt x (U.bn q) ∧ q.size ≤ 3) := ⟨by rw [hq.1]; exact Alt.wide x (by omega), by omega⟩
                  have hqs : q.size ≤ 3 := by omega
                  have hxw : IntKind.i32.wrap x = x := by simp [IntKind.wrap, IntKind.bits, IntKind.signed]; omega
                  have hxv : IntKind.i32.wrap (x + 65248) = x + 65248 := by simp [IntKind.wrap, IntKind.bits, IntKind.signed]; omega
                  clear hq hqe
                  go_wp2
                  all_goals (
                    go_roundw
                    case rel =>
                      have hA := HADD.out q HQ.out.1 HQ.out.2
                      exact ⟨i + 1, T ++ q, by omega, by go_num, rfl, hA.1, hA.2, HB.out.alloc HB.out.size _⟩
                    case measure => simp [intOf]; omega)
              · have HL := hid hL
                have HD := hid hD
                obtain ⟨q, hcv, hq1, hq2⟩ := conv_byte wr (x) (by omega) (by omega)
                have HQ : Hid (Alt x (U.bn q) ∧ q.size ≤ 3) := ⟨by rw [hq1]; exact Alt.same x, by omega⟩
                have hqs : q.size ≤ 3 := by omega
                clear hq1 hq2
                go_wp2
                all_goals first
                  | (exfalso; have h1 := HL.out; have h2 := HD.out; omega)
                  | (go_roundw
                     case rel =>
                       have hA := HADD.out q HQ.out.1 HQ.out.2
                       exact ⟨i + 1, T ++ q, by omega, by go_num, rfl, hA.1, hA.2, HB.out.alloc HB.out.size _⟩
                     case measure => simp [intOf]; omega)
          · have hilz : ¬ (i : Int) < (len : Int) := by omega
            obtain ⟨q, hcv, hq1, hq2⟩ := conv_byte wr (x) (by omega) (by omega)
            have HQ : Hid (Alt x (U.bn q) ∧ q.size ≤ 3) := ⟨by rw [hq1]; exact Alt.same x, by omega⟩
            have hqs : q.size ≤ 3 := by omega
            clear hq1 hq2
            go_wp2
            all_goals (
              go_roundw
              case rel =>
                have hA := HADD.out q HQ.out.1 HQ.out.2
                exact ⟨i + 1, T ++ q, by omega, by go_num, rfl, hA.1, hA.2, HB.out.alloc HB.out.size _⟩
              case measure => simp [intOf]; omega)
        · obtain rfl : i = s.size := by omega
          have hAL : Alts (U.bn s) (U.bn T) := by
            have := HA.out
            rwa [List.take_of_length_le (by rw [U.bn_length]; exact Nat.le_refl _)] at this
          have HSM := hid (folds_same hy hAL)
          have H1 := hid (fun W => ascii_says s hy false W (by omega))
          have hTz : (T.size : Int) ≤ 4096 := by omega
          clear hAL
          go_wp2_with fail
          refine (H1.out _).mono ?_
          rintro e w1 ⟨⟨t1, r1, rfl, hS⟩, B1⟩
          have H2 := hid (fun W => ascii_is T hy false W (by omega) (t := t1) (r := r1) (by rw [HSM.out]; exact hS))
          have HB1 := hid (HB.out.trans (B1.mono HB.out.size))
          have hse := self_eqC t1
          have hre : (r1 == r1) = true := by simp
          clear B1 hS
          go_wp2_with fail
          refine (H2.out _).mono ?_
          rintro e w2 ⟨rfl, B2⟩
          have HB2 := hid (HB1.out.trans (B2.mono HB1.out.size))
          clear B2
          go_wp2_with (go_at_call 8; refine (works_any _).mono ?_; rintro e w3 ⟨rfl, B3⟩)
          go_ret
          exact ⟨rfl, HB2.out.trans (B3.mono HB2.out.size)⟩
end Go.Proofs.YtdncaehajhmcoaaGreat.I
namespace Go.Proofs.YtdncaehajhmcoaaGreat
open Go.ChangeShapes Go.WideShapes Go.ChangeAt Go.RowKit
open Go.ChangeMaps (open_string shut_string)
set_option linter.unusedVariables false

theorem idnaFolds_own : ownKnob Tryz.prog.godebug = none := by kernel_rfl
theorem idnaFolds_laidOut : laidOutB Tryz.prog = true := by kernel_rfl

set_option maxRecDepth 100000 in
theorem idnaFolds_lifted (os : Os) (started : os.Started) (H : Type) (enc : TypeId × Value → H) :
    ReturnsInHanded {} Tryz.checked os 5 .any (Rows.idnaFoldsSpec.pre6 enc Tryz.prog Tryz.f5 Rows.idnaFoldsRow.domain false) (Rows.idnaFoldsSpec.post enc Tryz.prog Tryz.f5 false true false false) := by
  refine returnsInHanded_of_change (C := Tryz.checked) idnaFolds_own started (by kernel_rfl) Tryz.func5
    (ChangeSpec.witness6 (enc := enc) (C := Tryz.checked) false ⟨#[], #[.string ByteArray.empty, .slice none 0 0, .bool false], []⟩ 8 (by kernel_rfl) (by kernel_rfl) (by kernel_rfl) (by kernel_rfl)) ?_
  intro W base args ds gs before hval0 hW hcnd _
  have hval : ∀ (j : Nat) t v, Tryz.f5.params[j]? = some t → args[j]? = some v → Value.okWide Tryz.prog W .any base t v := hval0
  have hW' := hW
  obtain ⟨p, q, hA0, hV, rfl, hfz, hnd⟩ := hW
  have hA : DataW.TrodAll enc Tryz.prog W 0 (fun _ => true) true Tryz.f5.params.toList args.toList ds p := hA0
  rw [Tryz.params5] at hA hval
  obtain ⟨v0, vs0, d0, ds0, p0, q0, hargs, rfl, rfl, h0, r0⟩ := trodAll_cons hA
  obtain ⟨v1, vs1, d1, ds1, p1, q1, rfl, rfl, rfl, h1, r1⟩ := trodAll_cons r0
  obtain ⟨v2, vs2, d2, ds2, p2, q2, rfl, rfl, rfl, h2, r2⟩ := trodAll_cons r1
  obtain ⟨rfl, rfl, rfl⟩ := trodAll_nil r2
  obtain rfl : args = #[v0, v1, v2] := by cases args; simp_all
  obtain ⟨rfl, rfl⟩ := trodVars_none hV
  obtain ⟨a0, rfl, rfl, rfl, w0⟩ := open_string Tryz.underlying9 (hval 0 9 v0 rfl rfl) h0
  obtain ⟨a1, len1, cap1, rfl⟩ := okWide_slice Tryz.underlying39 (hval 1 39 v1 rfl rfl)
  have k1 := h1
  have lt1 : ∀ x ∈ p1, x.block < W.heap.size := by obtain ⟨m, hm⟩ := k1; exact DataW.trod_lt m _ _ _ hm
  obtain ⟨z1, w1⟩ : ∃ zs, U.IsRow .u8 W a1 len1 cap1 zs := by
    obtain ⟨fuel, hf⟩ := h1
    rcases open_ints Tryz.underlying39 Tryz.underlying5 (by kernel_rfl) hf with ⟨hcs, _⟩ | ⟨x, l, c, zs, hcs, _, hl, hm, hz, _, hcell, hwz⟩
    · simp [Value.cells] at hcs
      obtain ⟨rfl, rfl, rfl⟩ := hcs
      exact ⟨[], .inl ⟨rfl, rfl, rfl, rfl⟩⟩
    · simp [Value.cells] at hcs
      obtain ⟨rfl, rfl, rfl⟩ := hcs
      exact ⟨zs, .inr ⟨_, rfl, hl, hm, by simpa using hz, hcell, hwz⟩⟩
  obtain ⟨a2, rfl, rfl, rfl⟩ := open_bool Tryz.underlying4 (hval 2 4 v2 rfl rfl) h2
  clear hA0 hval0
  refine (I.folds_walk a0 a1 len1 cap1 z1 a2 W w0 w1).mono fun e W' ⟨he, bel⟩ => ?_
  subst he
  exact ⟨_, rfl, _, _, _, [], _, [], hW', trodAll_mk1 (shut_bool Tryz.underlying4 _), (trodAll_cons_mk (shut_string Tryz.underlying9 w0) (trodAll_cons_mk (Below.trod idnaFolds_laidOut (by kernel_rfl) (of_decide_eq_true (by kernel_rfl)) k1 bel lt1) (trodAll_cons_mk (shut_bool Tryz.underlying4 _) trodAll_mk0))), rfl, bel.frame _, fun h => by cases h⟩

theorem idnaFolds_over : Rows.idnaFoldsRow.holds Tryz.pinned (OpenSpec.ofChange Rows.idnaFoldsSpec) :=
  OpenClaim.holds_of_wide 5 Tryz.f5 rfl rfl rfl rfl rfl rfl rfl ⟨rfl, rfl, rfl, rfl, rfl⟩ rfl rfl rfl rfl rfl (by kernel_rfl) Tryz.func5 (by kernel_rfl)
    (of_decide_eq_true (by kernel_rfl)) (by unfold Func.isWrapper; first | (rw [if_pos (by decide +kernel)]; kernel_rfl) | (rw [if_neg (by decide +kernel)]; exact ⟨rfl, rfl⟩))
    (fun os started H enc _ => idnaFolds_lifted os started H enc)

/-- The statement. -/
theorem idnaFolds_holds : Rows.IdnaFoldsSaid := idnaFolds_over
#print axioms idnaFolds_holds
end Go.Proofs.YtdncaehajhmcoaaGreat
