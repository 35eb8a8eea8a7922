/- The statement IdnaTells: for any text ASCII, Unicode, Map, Split and the one that processes answer what the document says; for every input, without any condition: the call returns true and its arguments read behind it as they read before. -/
import Derived.Test.YtdncaehajhmcoaaGreatZK6
import Derived.Test.YtdncaehajhmcoaaGreatZK7
import Derived.Test.YtdncaehajhmcoaaGreatZP8
import Derived.Test.YtdncaehajhmcoaaGreatZU3
import Derived.Test.YtdncaehajhmcoaaGreatZN9
import Derived.Test.YtdncaehajhmcoaaGreatRows
import Derived.BigQuiet
import Derived.WalkKit
import Derived.ProofKit
import Derived.OpenShut
import Derived.ShutString
import Derived.ChangeOld
import Derived.Below
/- What is answered is told by the text alone; some names; works. -/
namespace Go.Proofs.YtdncaehajhmcoaaGreat.I
open Go.RowKit
set_option linter.unusedVariables false

/-! ### One answer -/
theorem part_one_way {l p q : List Int} (h : Part l p) (k : Part l q) : p = q := by
  rcases h with ⟨h1, rfl⟩ | ⟨h1, T, hE, _, _, _, rfl⟩
  · exact ((plain_part h1 q).1 k).symm
  · rcases k with ⟨k1, _⟩ | ⟨_, T', hE', _, _, _, rfl⟩
    · rw [h1] at k1; cases k1
    · rw [hE.one hE']
theorem parts_one_way {xs : List (List Int × Int)} {ts us : List ByteArray} (h : PartsR xs ts) (k : PartsR xs us) : ts.map U.bn = us.map U.bn := by
  apply List.ext_getElem
  · simp [h.1, k.1]
  · intro i h1 h2
    rw [List.length_map] at h1 h2
    have hi : i < xs.length := by rw [← h.1]; exact h1
    have a := (h.2 i hi).2
    have b := (k.2 i hi).2
    rw [List.getElem?_eq_getElem hi, List.getElem?_eq_getElem h1] at a
    rw [List.getElem?_eq_getElem hi, List.getElem?_eq_getElem h2] at b
    simp only [List.getElem_map]
    exact part_one_way a b
/-- What ASCII says: a text, and an error. -/
def AscS (xs : List (List Int × Int)) (long : Bool) (t : ByteArray) (r : Int) : Prop :=
  (BadP xs ∧ t = ⟨#[]⟩ ∧ r = 70) ∨ (∃ ts, PartsR xs ts ∧ ((long = true ∧ badL (ts.map U.bn) ∧ t = ⟨#[]⟩ ∧ r = 4) ∨ (¬ (long = true ∧ badL (ts.map U.bn)) ∧ U.bn t = join (ts.map U.bn) ∧ r = 0)))
theorem asc_one_way {xs : List (List Int × Int)} {long : Bool} {t u : ByteArray} {r q : Int} (h : AscS xs long t r) (k : AscS xs long u q) : t = u ∧ r = q := by
  rcases h with ⟨h1, rfl, rfl⟩ | ⟨ts, h1, h2⟩
  · rcases k with ⟨k1, rfl, rfl⟩ | ⟨us, k1, _⟩
    · exact ⟨rfl, rfl⟩
    · exact absurd h1 (parts_bad k1)
  · rcases k with ⟨k1, _⟩ | ⟨us, k1, k2⟩
    · exact absurd k1 (parts_bad h1)
    · rw [parts_one_way h1 k1] at h2
      rcases h2 with ⟨a, b, rfl, rfl⟩ | ⟨a, b, rfl⟩
      · rcases k2 with ⟨_, _, rfl, rfl⟩ | ⟨c, _⟩
        · exact ⟨rfl, rfl⟩
        · exact absurd ⟨a, b⟩ c
      · rcases k2 with ⟨c, d, _⟩ | ⟨c, d, rfl⟩
        · exact absurd ⟨c, d⟩ a
        · exact ⟨P.bn_inj (b.trans d.symm), rfl⟩
/-- What ASCII answers. -/
theorem ascii_says (s : ByteArray) (hy long : Bool) (w : World) (hs : s.size ≤ 4096) :
    Calls Tryz.prog 9 #[.string s, .bool hy, .bool long] w fun e W' => (∃ t r, e = .returned (.tuple #[.string t, .int .i64 r]) ∧ AscS (prc (Mp (U.dec (U.bn s))) hy) long t r) ∧ Below w.heap.size w W' := ascii_any s hy long w hs
/-- Where the answer is known. -/
theorem ascii_is (s : ByteArray) (hy long : Bool) (w : World) (hs : s.size ≤ 4096) {t : ByteArray} {r : Int} (h : AscS (prc (Mp (U.dec (U.bn s))) hy) long t r) :
    Calls Tryz.prog 9 #[.string s, .bool hy, .bool long] w fun e W' => e = .returned (.tuple #[.string t, .int .i64 r]) ∧ Below w.heap.size w W' :=
  (ascii_says s hy long w hs).mono (by
    rintro e W' ⟨⟨t', r', rfl, h'⟩, hB⟩
    obtain ⟨rfl, rfl⟩ := asc_one_way h h'
    exact ⟨rfl, hB⟩)
theorem unicode_is (s : ByteArray) (hy : Bool) (w : World) (hs : s.size ≤ 4096) {t : ByteArray} (h : U.bn t = U.encs (join ((prc (Mp (U.dec (U.bn s))) hy).map (·.1)))) :
    Calls Tryz.prog 11 #[.string s, .bool hy] w fun e W' => e = .returned (.tuple #[.string t, .bool (noF (prc (Mp (U.dec (U.bn s))) hy))]) ∧ Below w.heap.size w W' :=
  (unicode_any s hy w hs).mono (by
    rintro e W' ⟨⟨t', rfl, h'⟩, hB⟩
    obtain rfl := P.bn_inj (h.trans h'.symm)
    exact ⟨rfl, hB⟩)

/-! ### Some names -/
def s1 : ByteArray := ⟨#[66, 195, 156, 67, 72, 69, 82, 46, 101, 120, 97, 109, 112, 108, 101]⟩
def s2 : ByteArray := ⟨#[120, 110, 45, 45, 97]⟩
def s3 : ByteArray := ⟨#[97, 46, 46, 98]⟩
def s4 : ByteArray := ⟨#[88, 78, 45, 45, 66, 67, 72, 69, 82, 45, 75, 86, 65]⟩
def exm : List Int := [101, 120, 97, 109, 112, 108, 101]
theorem spl_s1 : spl (Mp (U.dec (U.bn s1))) = [P.word, exm] := by decide +kernel
theorem spl_s2 : spl (Mp (U.dec (U.bn s2))) = [[120, 110, 45, 45, 97]] := by decide +kernel
theorem spl_s3 : spl (Mp (U.dec (U.bn s3))) = [[97], [], [98]] := by decide +kernel
theorem spl_s4 : spl (Mp (U.dec (U.bn s4))) = [[120, 110, 45, 45] ++ P.wordT] := by decide +kernel
theorem one_word (hy : Bool) : one P.word false = (P.word, 0) := by
  rw [one_a (by decide)]
  exact Prod.ext rfl (by decide +kernel)
theorem one_ex : one exm false = (exm, 0) := by
  rw [one_a (by decide)]
  exact Prod.ext rfl (by decide +kernel)
theorem prc_s1 : prc (Mp (U.dec (U.bn s1))) false = [(P.word, 0), (exm, 0)] := by
  unfold prc
  rw [spl_s1]
  simp only [List.map_cons, List.map_nil, one_word false, one_ex]
  rw [if_neg (by decide +kernel)]
theorem prc_s3 : prc (Mp (U.dec (U.bn s3))) false = [([97], 0), ([], 0), ([98], 0)] := by
  unfold prc
  rw [spl_s3]
  have e1 : one [97] false = ([97], 0) := by rw [one_a (by decide)]; exact Prod.ext rfl (by decide +kernel)
  have e2 : one [] false = ([], 0) := by rw [one_a (by decide)]; rfl
  have e3 : one [98] false = ([98], 0) := by rw [one_a (by decide)]; exact Prod.ext rfl (by decide +kernel)
  simp only [List.map_cons, List.map_nil, e1, e2, e3]
  rw [if_neg (by decide +kernel)]
theorem prc_s4 : prc (Mp (U.dec (U.bn s4))) false = [(P.word, 0)] := by
  have e1 : one ([120, 110, 45, 45] ++ P.wordT) false = (P.word, 0) := (part_one (hy := false) (l := P.word) (by decide +kernel) (.inr ⟨by decide, P.wordT, P.word_enc, by decide, by decide, by decide, rfl⟩)).1
  unfold prc
  rw [spl_s4]
  simp only [List.map_cons, List.map_nil, e1]
  rw [if_neg (by decide +kernel)]
theorem enc_80 : P.Enc [128] [97] := by
  refine ⟨[0], ?_, by decide⟩
  show _ = P.hd (P.plain [128]) ++ ([] ++ P.wn 72 36 0)
  rw [P.wn_less 72 36 0 (by decide)]
  decide
theorem bad_s2 : BadP (prc (Mp (U.dec (U.bn s2))) false) := by
  have e1 : one [120, 110, 45, 45, 97] false = ([128], L.flt [128] false) := by
    have hd := (P.dec_enc enc_80 (by decide) (by decide)).1
    unfold one
    rw [if_neg (by decide), if_neg (by decide)]
    have : rdx (List.drop 4 [120, 110, 45, 45, 97]) = some [128] := by
      show rdx [97] = _
      unfold rdx
      rw [if_neg (by decide), if_neg (by decide), hd]
    rw [this]
    rfl
  have hf : L.flt [128] false ≠ 0 := by decide +kernel
  have e2 : prc (Mp (U.dec (U.bn s2))) false = [([128], L.flt [128] false)] := by
    unfold prc
    rw [spl_s2]
    simp only [List.map_cons, List.map_nil, e1]
    rw [if_neg (by decide +kernel)]
  rw [e2]
  exact ⟨_, List.mem_singleton.2 rfl, .inl hf⟩
def t1 : ByteArray := ⟨#[120, 110, 45, 45, 98, 99, 104, 101, 114, 45, 107, 118, 97, 46, 101, 120, 97, 109, 112, 108, 101]⟩
def t4 : ByteArray := ⟨#[98, 195, 188, 99, 104, 101, 114]⟩
theorem says1 : AscS (prc (Mp (U.dec (U.bn s1))) false) true t1 0 := by
  rw [prc_s1]
  refine .inr ⟨[⟨#[120, 110, 45, 45, 98, 99, 104, 101, 114, 45, 107, 118, 97]⟩, ⟨#[101, 120, 97, 109, 112, 108, 101]⟩], ?_, .inr ⟨?_, by decide, rfl⟩⟩
  · have h1 : PartsR ([] ++ [(P.word, 0)]) ([] ++ [⟨#[120, 110, 45, 45, 98, 99, 104, 101, 114, 45, 107, 118, 97]⟩]) := PartsR.nil.snoc rfl (.inr ⟨by decide, P.wordT, P.word_enc, by decide, by decide, by decide, by decide⟩)
    exact h1.snoc (x := (exm, 0)) rfl (.inl ⟨by decide, by decide⟩)
  · rintro ⟨_, ⟨p, hp, hno⟩ | h⟩
    · have hc : cps ([(⟨#[120, 110, 45, 45, 98, 99, 104, 101, 114, 45, 107, 118, 97]⟩ : ByteArray), ⟨#[101, 120, 97, 109, 112, 108, 101]⟩].map U.bn) = [[120, 110, 45, 45, 98, 99, 104, 101, 114, 45, 107, 118, 97], [101, 120, 97, 109, 112, 108, 101]] := by decide
      rw [hc] at hp
      apply hno
      simp at hp
      rcases hp with rfl | rfl
      · exact ⟨by decide, by decide⟩
      · exact ⟨by decide, by decide⟩
    · revert h; decide
theorem says3 : AscS (prc (Mp (U.dec (U.bn s3))) false) true ⟨#[]⟩ 4 := by
  rw [prc_s3]
  refine .inr ⟨[⟨#[97]⟩, ⟨#[]⟩, ⟨#[98]⟩], ?_, .inl ⟨rfl, ?_, rfl, rfl⟩⟩
  · have h1 : PartsR ([] ++ [([97], 0)]) ([] ++ [⟨#[97]⟩]) := PartsR.nil.snoc rfl (.inl ⟨by decide, by decide⟩)
    have h2 := h1.snoc (x := ([], 0)) (t := ⟨#[]⟩) rfl (.inl ⟨by decide, by decide⟩)
    exact h2.snoc (x := ([98], 0)) rfl (.inl ⟨by decide, by decide⟩)
  · refine .inl ⟨[], ?_, fun h => h.1 rfl⟩
    have hc : cps ([(⟨#[97]⟩ : ByteArray), ⟨#[]⟩, ⟨#[98]⟩].map U.bn) = [[97], [], [98]] := by decide
    rw [hc]
    simp
theorem uni4 : U.bn t4 = U.encs (join ((prc (Mp (U.dec (U.bn s4))) false).map (·.1))) := by
  rw [prc_s4]; decide
theorem noF4 : noF (prc (Mp (U.dec (U.bn s4))) false) = true := by rw [prc_s4]; rfl
set_option maxRecDepth 100000 in
set_option maxHeartbeats 4000000 in
theorem works_any (w : World) : Calls Tryz.prog 8 #[] w fun e W' => e = .returned (.bool true) ∧ Below w.heap.size w W' := by
  have H1 := hid (fun W => ascii_is s1 false true W (by decide) says1)
  have H2 := hid (fun W => ascii_is s2 false false W (by decide) (.inl ⟨bad_s2, rfl, rfl⟩))
  have H3 := hid (fun W => ascii_is s3 false true W (by decide) says3)
  have H4 := hid (fun W => unicode_is s4 false W (by decide) uni4)
  rw [noF4] at H4
  unfold s1 t1 at H1
  unfold s2 at H2
  unfold s3 at H3
  unfold s4 t4 at H4
  go_enter Tryz.func8, Tryz.ntmps8
  go_wp2_with fail
  refine (H1.out _).mono ?_
  rintro e w1 ⟨rfl, B1⟩
  have HB1 := hid B1
  clear B1
  go_wp2_with fail
  refine (H2.out _).mono ?_
  rintro e w2 ⟨rfl, B2⟩
  have HB2 := hid (HB1.out.trans (B2.mono HB1.out.size))
  clear B2
  go_wp2_with fail
  refine (H3.out _).mono ?_
  rintro e w3 ⟨rfl, B3⟩
  have HB3 := hid (HB2.out.trans (B3.mono HB2.out.size))
  clear B3
  go_wp2_with fail
  refine (H4.out _).mono ?_
  rintro e w4 ⟨rfl, B4⟩
  have HB4 := hid (HB3.out.trans (B4.mono HB3.out.size))
  clear B4
  go_wp2
  go_ret
  exact ⟨rfl, HB4.out⟩
end Go.Proofs.YtdncaehajhmcoaaGreat.I
/- IdnaPlain: the walk. -/
namespace Go.Proofs.YtdncaehajhmcoaaGreat.I
open Go.RowKit
set_option linter.unusedVariables false

theorem ex_bn (l : List Int) (h : U.Bytes l) : ∃ t : ByteArray, U.bn t = l := by
  refine ⟨⟨(l.map fun c => UInt8.ofNat c.toNat).toArray⟩, ?_⟩
  unfold U.bn
  rw [List.toList_toArray, List.map_map]
  conv => rhs; rw [← List.map_id l]
  apply List.map_congr_left
  intro c hc
  have := h c hc
  show (((UInt8.ofNat c.toNat).toNat : Nat) : Int) = c
  rw [UInt8.toNat_ofNat', Nat.mod_eq_of_lt (by omega)]
  omega
theorem ex_bns : ∀ (ls : List (List Int)), (∀ l ∈ ls, U.Bytes l) → ∃ ts : List ByteArray, ts.map U.bn = ls
  | [], _ => ⟨[], rfl⟩
  | l :: ls, h => by
    obtain ⟨t, ht⟩ := ex_bn l (h l (by simp))
    obtain ⟨ts, hts⟩ := ex_bns ls (fun x hx => h x (by simp [hx]))
    exact ⟨t :: ts, by rw [List.map_cons, ht, hts]⟩
def ldd (c : Int) : Prop := ld c ∨ c = 46
theorem ldd_prc {l : List Int} (h : ∀ c ∈ l, ldd c) (hy : Bool) : prc (Mp (U.dec l)) hy = (spl l).map fun x => (x, 0) := by
  have hasc : ∀ c ∈ l, 0 ≤ c ∧ c < 128 := fun c hc => by
    have := h c hc
    unfold ldd ld at this
    omega
  have hd : U.dec l = l := P.dec_asc _ (fun c hc => by have := hasc c hc; omega) (by
    unfold P.asc
    rw [List.all_eq_true]
    intro c hc
    exact decide_eq_true (hasc c hc).2)
  have hM : Mp l = l := by
    unfold Mp
    rw [map_valid _ (fun r hr => .inl (ldh_valid r (by have := h r hr; unfold ldd ld at this; omega)))]
    exact (ascii_nfc l hasc).1
  have hl : ∀ x ∈ spl l, ∀ c ∈ x, ld c := fun x hx c hc => by
    have h1 := spl_dots l x hx
    have key : ∀ (ls : List (List Int)), x ∈ ls → c ∈ join ls := by
      intro ls
      induction ls with
      | nil => intro h; simp at h
      | cons b t ih =>
        intro hm
        cases t with
        | nil => simp at hm; rw [← hm]; exact hc
        | cons d t =>
          rw [join]
          rcases List.mem_cons.1 hm with rfl | hm
          · simp [hc]
          · have := ih hm
            simp [this]
    have h2 := h c (by rw [← join_spl l]; exact key _ hx)
    rcases h2 with h2 | rfl
    · exact h2
    · exact absurd hc h1
  have hm : (spl l).map (fun x => one x hy) = (spl l).map fun x => (x, 0) := List.map_congr_left (fun x hx => one_fine (ld_flt x hy (hl x hx)))
  rw [hd, hM]
  unfold prc
  rw [hm]
  have hr : anyR ((spl l).map fun x => (x, (0 : Int))) = false := by
    unfold anyR
    rw [any_map, List.any_eq_false]
    intro x hx
    have := ld_right x (hl x hx)
    simp [this]
  rw [if_neg (by rw [hr]; decide)]
theorem ldd_says {t : ByteArray} (h : ∀ c ∈ U.bn t, ldd c) (hy : Bool) : AscS (prc (Mp (U.dec (U.bn t))) hy) false t 0 ∧ U.bn t = U.encs (join ((prc (Mp (U.dec (U.bn t))) hy).map (·.1))) ∧ noF (prc (Mp (U.dec (U.bn t))) hy) = true := by
  rw [ldd_prc h hy]
  have hpl : ∀ x ∈ spl (U.bn t), ∀ c ∈ x, 0 ≤ c ∧ c < 128 := fun x hx c hc => by
    have key : ∀ (ls : List (List Int)), x ∈ ls → c ∈ join ls := by
      intro ls
      induction ls with
      | nil => intro h; simp at h
      | cons b t ih =>
        intro hm
        cases t with
        | nil => simp at hm; rw [← hm]; exact hc
        | cons d t =>
          rw [join]
          rcases List.mem_cons.1 hm with rfl | hm
          · simp [hc]
          · have := ih hm
            simp [this]
    have h2 := h c (by rw [← join_spl (U.bn t)]; exact key _ hx)
    unfold ldd ld at h2
    omega
  refine ⟨?_, ?_, ?_⟩
  · obtain ⟨ts, hts⟩ := ex_bns (spl (U.bn t)) (fun x hx c hc => by have := hpl x hx c hc; omega)
    refine .inr ⟨ts, ⟨?_, fun i hi => ?_⟩, .inr ⟨fun h => absurd h.1 (by decide), by rw [hts, join_spl], rfl⟩⟩
    · rw [List.length_map, ← hts, List.length_map]
    · rw [List.length_map] at hi
      have hit : i < ts.length := by have := congrArg List.length hts; rw [List.length_map] at this; omega
      rw [List.getElem?_map, List.getElem?_eq_getElem hi, List.getElem?_eq_getElem hit]
      refine ⟨rfl, .inl ⟨plain_iff.2 (hpl _ (List.getElem_mem hi)), ?_⟩⟩
      have : (ts.map U.bn)[i]? = (spl (U.bn t))[i]? := by rw [hts]
      rw [List.getElem?_map, List.getElem?_eq_getElem hit, List.getElem?_eq_getElem hi] at this
      exact Option.some.inj this
  · rw [List.map_map]
    have : ((·.1) ∘ fun x : List Int => (x, (0 : Int))) = id := rfl
    rw [this, List.map_id, join_spl, encs_plain (fun c hc => by have := h c hc; unfold ldd ld at this; omega)]
  · unfold noF
    rw [List.all_eq_true]
    intro x hx
    obtain ⟨y, _, rfl⟩ := List.mem_map.1 hx
    rfl
def abc : ByteArray := ⟨#[97, 98, 99, 100, 101, 102, 103, 104, 105, 106, 107, 108, 109, 110, 111, 112, 113, 114, 115, 116, 117, 118, 119, 120, 121, 122, 48, 49, 50, 51, 52, 53, 54, 55, 56, 57]⟩
theorem abc_at : ∀ n : Fin 36, ∃ c, U.bn (abc.extract n.val (n.val + 1)) = [c] ∧ (97 ≤ c ∧ c ≤ 122 ∨ 48 ≤ c ∧ c ≤ 57) := by
  have : ∀ n : Fin 36, (U.bn (abc.extract n.val (n.val + 1))).length = 1 ∧ (97 ≤ (U.bn (abc.extract n.val (n.val + 1))).headD 0 ∧ (U.bn (abc.extract n.val (n.val + 1))).headD 0 ≤ 122 ∨ 48 ≤ (U.bn (abc.extract n.val (n.val + 1))).headD 0 ∧ (U.bn (abc.extract n.val (n.val + 1))).headD 0 ≤ 57) := by decide +kernel
  intro n
  obtain ⟨h1, h2⟩ := this n
  generalize U.bn (abc.extract n.val (n.val + 1)) = e at h1 h2
  match e, h1 with
  | [x], _ => exact ⟨x, rfl, h2⟩
theorem u8_wf {d : Int} (h : (Lit.int .u8 d).wf = true) : 0 ≤ d ∧ d ≤ 255 := by
  simp [Lit.wf, IntKind.min, IntKind.max, IntKind.bits, IntKind.signed] at h
  omega
theorem u8_cells {w : World} {a : Option Addr} {len cap : Nat} {zs : List Int} (h : U.IsRow .u8 w a len cap zs) (k : Nat) (hk : k < len) : ∃ b off d, a = some ⟨b, off, none⟩ ∧ w.cell? ⟨b, off + k, none⟩ = some (.int .u8 d) ∧ 0 ≤ d ∧ d ≤ 255 := by
  rcases h with ⟨_, rfl, _⟩ | ⟨x, rfl, hl, _, hz, hc, hw⟩
  · omega
  · obtain ⟨b, off, rfl, hc'⟩ := ints_at hc (by omega)
    refine ⟨b, off, zs.getD k 0, rfl, hc' k (by omega), u8_wf (hw _ ?_)⟩
    rw [List.getD_eq_getElem?_getD, List.getElem?_eq_getElem (by omega)]
    exact List.getElem_mem _
theorem last_at {t : ByteArray} {z : Nat} (h : z < t.size) : ((t[z].toNat : Nat) : Int) = (U.bn t)[z]?.getD 0 := (P.bn_get t z h).symm
theorem self_eqC (t : ByteArray) : (t.toList == t.toList) = true := by rw [U.str_eq_bn]; exact decide_eq_true rfl
set_option maxRecDepth 100000 in
set_option maxHeartbeats 8000000 in
theorem plain_walk (s : ByteArray) (a : Option Addr) (len cap : Nat) (zs : List Int) (w : World) (hs : s.size ≤ maxLen) (hr : U.IsRow .u8 w a len cap zs) :
    Calls Tryz.prog 7 #[.string s, .slice a len cap] w fun e W' => e = .returned (.bool true) ∧ Below w.heap.size w W' := by
  have hm := U.row_max hr
  unfold maxLen at hs hm
  by_cases h3 : 300 < s.size
  · go_enter Tryz.func7, Tryz.ntmps7
    go_wp2_with (go_at_call 8; refine (works_any _).mono ?_; rintro e w1 ⟨rfl, B1⟩)
    go_ret
    exact ⟨rfl, B1⟩
  · by_cases h60 : 60 < len
    · have h3z : ¬ (300 : Int) < (s.size : Int) := by omega
      go_enter Tryz.func7, Tryz.ntmps7
      go_wp2_with (go_at_call 8; refine (works_any _).mono ?_; rintro e w1 ⟨rfl, B1⟩)
      go_ret
      exact ⟨rfl, B1⟩
    · have h3z : (s.size : Int) ≤ 300 := by omega
      have h60z : (len : Int) ≤ 60 := by omega
      have HC := hid (fun k hk => u8_cells hr k hk)
      have HABC := hid abc_at
      unfold abc at HABC
      clear hr
      go_enter Tryz.func7, Tryz.ntmps7
      go_wp2_with fail
      go_loop [5, 6] (fun v5 v6 => ∃ (i : Nat) (T : ByteArray), i ≤ s.size ∧ v6 = .int .i64 i ∧ v5 = .string T ∧ i ≤ T.size ∧ T.size ≤ 2 * i ∧ Hid (∀ c ∈ U.bn T, ldd c)) (fun _ v6 => s.size - (intOf v6).toNat)
      case atStart => exact ⟨0, ⟨#[]⟩, Nat.zero_le _, rfl, rfl, Nat.le_refl _, Nat.le_refl _, (fun c hc => by simp [U.bn] at hc)⟩
      case round =>
        obtain ⟨i, T, hi, rfl, rfl, hT1, hT2, HT⟩ := hrel
        by_cases hlt : i < s.size
        · go_wp2_with fail
          go_loop [5, 7] (fun v5 v7 => ∃ (k : Nat) (T : ByteArray), k ≤ len ∧ v7 = .int .i64 k ∧ v5 = .string T ∧ i ≤ T.size ∧ T.size ≤ 2 * i + 1 ∧ Hid (T.size = 2 * i + 1 → (U.bn T)[T.size - 1]?.getD 0 = 46) ∧ Hid (∀ c ∈ U.bn T, ldd c)) (fun _ v7 => len - (intOf v7).toNat)
          case atStart => exact ⟨0, T, Nat.zero_le _, rfl, rfl, hT1, by omega, (fun h => by omega), HT⟩
          case round =>
            clear hT1 hT2 HT
            obtain ⟨k, T, hk, rfl, rfl, hT1, hT2, HL, HT⟩ := hrel
            by_cases hkl : k < len
            · obtain ⟨b, off, d, rfl, hck, hd0, hd1⟩ := HC.out k hkl
              by_cases hdi : d = (i : Int)
              · by_cases hi0 : 0 < i
                · obtain ⟨z, hz⟩ : ∃ z, T.size = z + 1 := ⟨T.size - 1, by omega⟩
                  have hzl : z < T.size := by omega
                  have hzi : (T.size : Int) - 1 = (z : Int) := by omega
                  have hzw : IntKind.i64.wrap (z : Int) = (z : Int) := by simp [IntKind.wrap, IntKind.bits, IntKind.signed]; omega
                  have HZ := hid hz
                  have HLA := hid (last_at hzl)
                  have hi0z : (0 : Int) < (i : Int) := by omega
                  clear hz
                  subst hdi
                  have HSZ : Hid ((T ++ ⟨#[46]⟩).size = T.size + 1) := by show _ = _; rw [ByteArray.size_append]; rfl
                  have HBN : Hid (U.bn (T ++ ⟨#[46]⟩) = U.bn T ++ [46]) := by show _ = _; rw [U.bn_append]; rfl
                  by_cases h46 : ((T[z].toNat : Nat) : Int) = 46
                  · have h46b : (((T[z].toNat : Nat) : Int) != 46) = false := by simpa using h46
                    have h46c : (((T[z].toNat : Nat) : Int) == 46) = true := by simpa using h46
                    clear h46
                    go_wp2
                    exact ⟨⟨k + 1, T, by omega, by go_num, rfl, hT1, hT2, HL, HT⟩, by simp [intOf]; omega⟩
                  · have h46b : (((T[z].toNat : Nat) : Int) != 46) = true := by simpa using h46
                    have h46c : (((T[z].toNat : Nat) : Int) == 46) = false := by simpa using h46
                    have HNE : Hid (T.size ≠ 2 * i + 1) := fun h => by
                      have h1 := HL.out h
                      rw [HZ.out, Nat.add_sub_cancel, ← HLA.out] at h1
                      exact h46 h1
                    clear h46
                    go_wp2
                    refine ⟨⟨k + 1, T ++ ⟨#[46]⟩, by omega, by go_num, rfl, by rw [HSZ.out]; omega, by rw [HSZ.out]; have := HNE.out; omega, (fun _ => ?_), ?_⟩, by simp [intOf]; omega⟩
                    · rw [HSZ.out, HBN.out, Nat.add_sub_cancel, List.getElem?_append_right (by rw [U.bn_length]; exact Nat.le_refl _), U.bn_length, Nat.sub_self]; rfl
                    · intro c hc
                      rw [HBN.out] at hc
                      rcases List.mem_append.1 hc with hc | hc
                      · exact HT.out c hc
                      · simp at hc; exact .inr hc
                · obtain rfl : i = 0 := by omega
                  subst hdi
                  go_wp2
                  all_goals exact ⟨⟨k + 1, T, by omega, by go_num, rfl, hT1, hT2, HL, HT⟩, by simp [intOf]; omega⟩
              · have hdb : (d == (i : Int)) = false := by simpa using hdi
                go_wp2
                exact ⟨⟨k + 1, T, by omega, by go_num, rfl, hT1, hT2, HL, HT⟩, by simp [intOf]; omega⟩
            · obtain rfl : k = len := by omega
              obtain ⟨n, hn⟩ : ∃ n : Nat, (s[i].toNat) % 36 = n := ⟨_, rfl⟩
              have hnl : n < 36 := by omega
              have hnz : ((s[i].toNat : Nat) : Int) % 36 = (n : Int) := by omega
              have hsb : s[i].toNat < 256 := s[i].toNat_lt
              have hnt : Int.tmod ((s[i].toNat : Nat) : Int) 36 = (n : Int) := by rw [Int.tmod_eq_emod_of_nonneg (by omega)]; exact hnz
              have hw1 : wrap64 ((s[i].toNat : Nat) : Int) = ((s[i].toNat : Nat) : Int) := by simp [wrap64]; omega
              have hw2 : wrap64 ((n : Int) + 1) = (n : Int) + 1 := by simp [wrap64]; omega
              obtain ⟨c, hc1, hc2⟩ := HABC.out ⟨n, hnl⟩
              have HC1 := hid hc1
              have HC2 := hid hc2
              clear hc1 hc2 hn hnz hsb
              obtain ⟨x, hx⟩ : ∃ x : Int, ((s[i].toNat : Nat) : Int) = x := ⟨_, rfl⟩
              rw [hx] at hnt hw1
              go_wp2
              obtain ⟨q, hq⟩ : ∃ q : ByteArray, (⟨#[97, 98, 99, 100, 101, 102, 103, 104, 105, 106, 107, 108, 109, 110, 111, 112, 113, 114, 115, 116, 117, 118, 119, 120, 121, 122, 48, 49, 50, 51, 52, 53, 54, 55, 56, 57]⟩ : ByteArray).extract n (n + 1) = q := ⟨_, rfl⟩
              have hqb : U.bn q = [c] := by rw [← hq]; exact HC1.out
              have hqs : q.size = 1 := by rw [← U.bn_length, hqb]; rfl
              rw [hq]
              refine ⟨⟨i + 1, T ++ q, by omega, by go_num, rfl, by rw [ByteArray.size_append, hqs]; omega, by rw [ByteArray.size_append, hqs]; omega, ?_⟩, by simp [intOf]; omega⟩
              intro y hy
              rw [U.bn_append, hqb] at hy
              rcases List.mem_append.1 hy with hy | hy
              · exact HT.out y hy
              · simp at hy
                rw [hy]
                exact .inl HC2.out
        · obtain rfl : i = s.size := by omega
          have hq := ldd_says HT.out true
          have HA := hid (fun W => ascii_is T true false W (by omega) hq.1)
          have HU := hid (fun W => unicode_is T true W (by omega) hq.2.1)
          rw [hq.2.2] at HU
          have hse := self_eqC T
          clear hq
          go_wp2_with fail
          refine (HA.out _).mono ?_
          rintro e w1 ⟨rfl, B1⟩
          have HB1 := hid B1
          clear B1
          go_wp2_with fail
          refine (HU.out _).mono ?_
          rintro e w2 ⟨rfl, B2⟩
          have HB2 := hid (HB1.out.trans (B2.mono HB1.out.size))
          clear B2
          go_wp2_with (go_at_call 8; refine (works_any _).mono ?_; rintro e w3 ⟨rfl, B3⟩)
          go_ret
          exact ⟨rfl, HB2.out.trans (B3.mono HB2.out.size)⟩
end Go.Proofs.YtdncaehajhmcoaaGreat.I
/- IdnaJoins: the walk. -/
namespace Go.Proofs.YtdncaehajhmcoaaGreat.I
open Go.RowKit
set_option linter.unusedVariables false

/-! ### Plain -/
theorem prc_left {X : List Int} {hy : Bool} (h : (prc X hy).any (fun x => L.goesR x.1) = false) : prc X hy = (spl X).map fun l => one l hy := by
  have h1 : anyR ((spl X).map fun l => one l hy) = false := by
    have e : (prc X hy).any (fun x => L.goesR x.1) = ((prc X hy).map (·.1)).any L.goesR := (any_map _ _ _).symm
    rw [e, prc_fst] at h
    unfold anyR
    rw [any_map]
    rwa [any_map] at h
  unfold prc
  rw [if_neg (by rw [h1]; decide)]
theorem prc_two {a b : List Int} {hy : Bool} (ha : U.Bytes a) (hb : U.Bytes b) (h1 : (prc (Mp (U.dec a)) hy).any (fun x => L.goesR x.1) = false) (h2 : (prc (Mp (U.dec b)) hy).any (fun x => L.goesR x.1) = false) :
    prc (Mp (U.dec (a ++ 46 :: b))) hy = prc (Mp (U.dec a)) hy ++ prc (Mp (U.dec b)) hy := by
  have e1 := prc_left h1
  have e2 := prc_left h2
  rw [dec_dot 46 b (by omega) (by omega) hb a.length a (Nat.le_refl _) ha, Mp_two]
  have e3 : (spl (Mp (U.dec a) ++ 46 :: Mp (U.dec b))).map (fun l => one l hy) = prc (Mp (U.dec a)) hy ++ prc (Mp (U.dec b)) hy := by
    rw [spl_two, List.map_append, e1, e2]
  unfold prc
  rw [e3]
  have h3 : anyR (prc (Mp (U.dec a)) hy ++ prc (Mp (U.dec b)) hy) = false := by
    unfold anyR
    rw [List.any_append, h1, h2]; rfl
  rw [if_neg (by rw [h3]; decide)]
  rfl
theorem join_two : ∀ (xs ys : List (List Int)), xs ≠ [] → ys ≠ [] → join (xs ++ ys) = join xs ++ 46 :: join ys
  | [], _, h, _ => absurd rfl h
  | [a], y :: ys, _, _ => rfl
  | [a], [], _, h => absurd rfl h
  | a :: b :: xs, ys, _, h => by
    have ih := join_two (b :: xs) ys (by simp) h
    show a ++ 46 :: join ((b :: xs) ++ ys) = (a ++ 46 :: join (b :: xs)) ++ 46 :: join ys
    rw [ih]; simp
theorem PartsR.both {xs ys : List (List Int × Int)} {ts us : List ByteArray} (h : PartsR xs ts) (k : PartsR ys us) : PartsR (xs ++ ys) (ts ++ us) := by
  refine ⟨by simp [h.1, k.1], fun i hi => ?_⟩
  by_cases e : i < xs.length
  · rw [List.getElem?_append_left e, List.getElem?_append_left (by rw [h.1]; exact e)]
    exact h.2 i e
  · rw [List.length_append] at hi
    rw [List.getElem?_append_right (by omega), List.getElem?_append_right (by rw [h.1]; omega), h.1]
    exact k.2 _ (by omega)
/-- What two names come to, with a dot between. -/
theorem says_two {xs ys : List (List Int × Int)} {x y : ByteArray} {e h : Int} (hx : AscS xs false x e) (hy : AscS ys false y h) (nx : xs ≠ []) (ny : ys ≠ []) :
    ∃ z k, AscS (xs ++ ys) false z k ∧ ((k = 0 ∧ e = 0 ∧ h = 0 ∧ z = (x ++ ⟨#[46]⟩) ++ y) ∨ (k ≠ 0 ∧ ¬ (e = 0 ∧ h = 0))) := by
  rcases hx with ⟨hb, rfl, rfl⟩ | ⟨ts, hp, ⟨hl, _⟩ | ⟨_, hj, rfl⟩⟩
  · obtain ⟨q, hq, hbq⟩ := hb
    exact ⟨⟨#[]⟩, 70, .inl ⟨⟨q, by simp [hq], hbq⟩, rfl, rfl⟩, .inr ⟨by decide, fun h => absurd h.1 (by decide)⟩⟩
  · cases hl
  · rcases hy with ⟨hb, rfl, rfl⟩ | ⟨us, hp', ⟨hl, _⟩ | ⟨_, hj', rfl⟩⟩
    · obtain ⟨q, hq, hbq⟩ := hb
      exact ⟨⟨#[]⟩, 70, .inl ⟨⟨q, by simp [hq], hbq⟩, rfl, rfl⟩, .inr ⟨by decide, fun h => absurd h.2 (by decide)⟩⟩
    · cases hl
    · refine ⟨(x ++ ⟨#[46]⟩) ++ y, 0, .inr ⟨ts ++ us, hp.both hp', .inr ⟨fun h => absurd h.1 (by decide), ?_, rfl⟩⟩, .inl ⟨rfl, rfl, rfl, rfl⟩⟩
      have n1 : ts.map U.bn ≠ [] := fun h => by
        have := congrArg List.length h
        rw [List.length_map, hp.1] at this
        exact nx (List.length_eq_zero_iff.1 this)
      have n2 : us.map U.bn ≠ [] := fun h => by
        have := congrArg List.length h
        rw [List.length_map, hp'.1] at this
        exact ny (List.length_eq_zero_iff.1 this)
      rw [List.map_append, join_two _ _ n1 n2, U.bn_append, U.bn_append, hj, hj']
      show _ ++ [46] ++ _ = _
      simp
theorem asc_size {xs : List (List Int × Int)} {long : Bool} {t : ByteArray} {r : Int} (h : AscS xs long t r) (hx : ∀ x ∈ xs, x.1.length ≤ 10000) (hn : xs.length ≤ 601) : t.size ≤ 20000000 := by
  rcases h with ⟨_, rfl, _⟩ | ⟨ts, hp, ⟨_, _, rfl, _⟩ | ⟨_, hj, _⟩⟩
  · exact Nat.zero_le _
  · exact Nat.zero_le _
  · have h1 := join_len (ts.map U.bn) 20000 (fun l hl => by
      obtain ⟨u, hu, rfl⟩ := List.mem_map.1 hl
      rw [U.bn_length]
      exact parts_size hp hx u hu)
    rw [← hj, U.bn_length, List.length_map, hp.1] at h1
    have h2 : xs.length * (20000 + 1) ≤ 601 * 20001 := Nat.mul_le_mul hn (by omega)
    omega
theorem prc_ne (X : List Int) (hy : Bool) : prc X hy ≠ [] := fun h => by
  have := prc_pos X hy
  rw [h] at this
  simp at this

/-! ### Rows -/
def at0 (xs : List (List Int × Int)) (k : Nat) : List Int × Int := xs[k]?.getD ([], 0)
theorem Pr.at' {w0 w W : World} {ao af : Option Addr} {co cf n : Nat} {vs : List Value} {xs : List (List Int × Int)} (h : Pr w0 w (.slice ao n co) (.slice af n cf) n vs xs) (hB : Below w.heap.size w W) (k : Nat) (hk : k < n) :
    ∃ g1 g2 ae ce q, ao = some ⟨g1, 0, none⟩ ∧ af = some ⟨g2, 0, none⟩ ∧ (at0 xs k).1.length = q ∧ W.cell? ⟨g1, k, none⟩ = some (.slice ae q ce) ∧ W.cell? ⟨g2, k, none⟩ = some (.int .u16 (at0 xs k).2) ∧ U.IntsAt W (.slice ae q ce) (at0 xs k).1 := by
  have hkx : k < xs.length := by rw [← h.len]; exact hk
  have ea : at0 xs k = xs[k] := by unfold at0; rw [List.getElem?_eq_getElem hkx]; rfl
  obtain ⟨g1, e1, hc1, -⟩ := row_cell h.out k hk
  obtain ⟨g2, e2, hc2, -⟩ := row_cell h.flt k hk
  have hel := h.els.2 k (by rw [List.length_map]; exact hkx)
  rw [List.getElem?_map, List.getElem?_eq_getElem hkx] at hel hc2
  replace hel : El w (vs[k]?.getD undef) xs[k].1 := hel
  replace hc2 : w.cell? ⟨g2, k, none⟩ = some (.int .u16 xs[k].2) := hc2
  obtain ⟨ae, ce, hue⟩ := el_shape hel
  rw [hue] at hc1 hel
  rw [ea]
  exact ⟨g1, g2, ae, ce, _, e1, e2, rfl, (hB.cell (p := ⟨g1, k, none⟩) (U.lt_of_cell hc1)).trans hc1, (hB.cell (p := ⟨g2, k, none⟩) (U.lt_of_cell hc2)).trans hc2, (hel.below hB).ints⟩
theorem at_mem {xs : List (List Int × Int)} {k : Nat} (h : k < xs.length) : at0 xs k ∈ xs := by
  unfold at0
  rw [List.getElem?_eq_getElem h]
  exact List.getElem_mem h
theorem no_right {xs : List (List Int × Int)} {n : Nat} (hn : xs.length = n) (h : ∀ j, j < n → L.goesR (at0 xs j).1 = false) : xs.any (fun x => L.goesR x.1) = false := by
  rw [List.any_eq_false]
  intro x hx
  obtain ⟨i, hi, rfl⟩ := List.mem_iff_getElem.1 hx
  have := h i (by omega)
  unfold at0 at this
  rw [List.getElem?_eq_getElem hi] at this
  simp only [Option.getD_some] at this
  rw [this]; decide
theorem at_left (xs ys : List (List Int × Int)) (k : Nat) (h : k < xs.length) : at0 (xs ++ ys) k = at0 xs k := by unfold at0; rw [List.getElem?_append_left h]
theorem at_right (xs ys : List (List Int × Int)) (j : Nat) : at0 (xs ++ ys) (xs.length + j) = at0 ys j := by unfold at0; rw [List.getElem?_append_right (by omega), Nat.add_sub_cancel_left]
set_option maxRecDepth 100000 in
set_option maxHeartbeats 16000000 in
theorem joins_walk (a b : ByteArray) (hy : Bool) (w : World) (ha : a.size ≤ maxLen) (hb : b.size ≤ maxLen) :
    Calls Tryz.prog 6 #[.string a, .string b, .bool hy] w fun e W' => e = .returned (.bool true) ∧ Below w.heap.size w W' := by
  unfold maxLen at ha hb
  by_cases h3 : 300 < a.size
  · go_enter Tryz.func6, Tryz.ntmps6
    go_wp2_with (go_at_call 8; refine (works_any _).mono ?_; rintro e w1 ⟨rfl, B1⟩)
    go_ret
    exact ⟨rfl, B1⟩
  · by_cases h60 : 300 < b.size
    · have h3z : ¬ (300 : Int) < (a.size : Int) := by omega
      go_enter Tryz.func6, Tryz.ntmps6
      go_wp2_with (go_at_call 8; refine (works_any _).mono ?_; rintro e w1 ⟨rfl, B1⟩)
      go_ret
      exact ⟨rfl, B1⟩
    · have h3z : (a.size : Int) ≤ 300 := by omega
      have h60z : (b.size : Int) ≤ 300 := by omega
      have hsz : ((a ++ ⟨#[46]⟩) ++ b).size ≤ 4096 := by rw [ByteArray.size_append, ByteArray.size_append]; show a.size + 1 + b.size ≤ 4096; omega
      have hbn : U.bn ((a ++ ⟨#[46]⟩) ++ b) = U.bn a ++ 46 :: U.bn b := by
        rw [U.bn_append, U.bn_append]
        show _ ++ [46] ++ _ = _
        simp
      have HP1 := hid (fun W => process_any a hy W (by omega))
      have HP2 := hid (fun W => process_any b hy W (by omega))
      have HP3 := hid (fun W => process_any ((a ++ ⟨#[46]⟩) ++ b) hy W hsz)
      have HA1 := hid (fun W => ascii_says a hy false W (by omega))
      have HA2 := hid (fun W => ascii_says b hy false W (by omega))
      have HA3 := hid (fun t r W h => ascii_is ((a ++ ⟨#[46]⟩) ++ b) hy false W hsz (t := t) (r := r) h)
      have HTW := hid (prc_two (hy := hy) (U.bn_bytes a) (U.bn_bytes b))
      rw [← hbn] at HTW
      have bd : ∀ s : ByteArray, s.size ≤ 300 → (prc (Mp (U.dec (U.bn s))) hy).length ≤ 601 ∧ ∀ x ∈ prc (Mp (U.dec (U.bn s))) hy, (0 ≤ x.2 ∧ x.2 ≤ 768) ∧ x.1.length ≤ 10000 ∧ Scs x.1 := fun s h => by
        have h1 := Mp_lenl (U.bn s) (U.bn_bytes s)
        rw [U.bn_length] at h1
        have h2 := spl_length (Mp (U.dec (U.bn s)))
        exact ⟨by rw [prc_len]; omega, prc_eachK _ hy (by omega) (Mp_scal _ (dec_scs _ (U.bn_bytes s)))⟩
      have hb1 := bd a (by omega)
      have hb2 := bd b (by omega)
      have hn1 := prc_ne (Mp (U.dec (U.bn a))) hy
      have hn2 := prc_ne (Mp (U.dec (U.bn b))) hy
      obtain ⟨xs, hxs⟩ : ∃ xs, prc (Mp (U.dec (U.bn a))) hy = xs := ⟨_, rfl⟩
      obtain ⟨ys, hys⟩ : ∃ ys, prc (Mp (U.dec (U.bn b))) hy = ys := ⟨_, rfl⟩
      obtain ⟨zs, hzs⟩ : ∃ zs, prc (Mp (U.dec (U.bn ((a ++ ⟨#[46]⟩) ++ b)))) hy = zs := ⟨_, rfl⟩
      rw [hxs] at HP1 HA1 HTW hb1 hn1
      rw [hys] at HP2 HA2 HTW hb2 hn2
      rw [hzs] at HP3 HA3 HTW
      have HE1 := hid hb1.2
      have HE2 := hid hb2.2
      have HN1 := hid hn1
      have HN2 := hid hn2
      obtain ⟨n1, hl1⟩ : ∃ n, xs.length = n := ⟨_, rfl⟩
      obtain ⟨n2, hl2⟩ : ∃ n, ys.length = n := ⟨_, rfl⟩
      have HL1 := hid hl1
      have HL2 := hid hl2
      have hc1 : n1 ≤ 601 := by have := hb1.1; omega
      have hc2 : n2 ≤ 601 := by have := hb2.1; omega
      unfold ProcR at HP1 HP2 HP3
      rw [hl1] at HP1
      rw [hl2] at HP2
      clear hxs hys hzs bd hb1 hb2 hn1 hn2 hl1 hl2 hbn hsz
      go_enter Tryz.func6, Tryz.ntmps6
      go_wp2_with fail
      refine (HP1.out _).mono ?_
      rintro e w1 ⟨v1, f1, us1, rfl, hP1⟩
      have HR1 := hid hP1
      obtain ⟨ao1, co1, rfl⟩ := own_sh22 hP1.out
      obtain ⟨af1, cf1, rfl⟩ := own_sh16 hP1.flt
      clear hP1
      go_wp2_with fail
      refine (HP2.out _).mono ?_
      rintro e w2 ⟨v2, f2, us2, rfl, hP2⟩
      have HR2 := hid hP2
      obtain ⟨ao2, co2, rfl⟩ := own_sh22 hP2.out
      obtain ⟨af2, cf2, rfl⟩ := own_sh16 hP2.flt
      have HB12 := hid hP2.be
      have HB02 := hid (HR1.out.be.trans (hP2.be.mono HR1.out.be.size))
      clear hP2
      go_wp2_with fail
      -- the first name's labels
      go_loopw [11] (fun v11 wr => ∃ k : Nat, k ≤ n1 ∧ v11 = .int .i64 k ∧ Hid (∀ j, j < k → L.goesR (at0 xs j).1 = false) ∧ Hid (Below w2.heap.size w2 wr)) (fun v11 _ => n1 - (intOf v11).toNat)
      case atStart => exact ⟨0, Nat.zero_le _, rfl, (fun j hj => by omega), Below.refl _ _⟩
      case round =>
        obtain ⟨k, hk, rfl, HG, HB⟩ := hrel
        by_cases hlt : k < n1
        · obtain ⟨g1, g2, ae, ce, q, rfl, rfl, hq, d1, d2, hI⟩ := HR1.out.at' (HB12.out.trans (HB.out.mono HB12.out.size)) k hlt
          have hqb := (HE1.out _ (at_mem (show k < xs.length by rw [HL1.out]; exact hlt))).2.1
          have HRT := hid (L.rright_any _ (at0 xs k).1 wr (by omega) hI)
          have HS : Hid (L.goesR (at0 xs k).1 = false → ∀ j, j < k + 1 → L.goesR (at0 xs j).1 = false) := fun h j hj => by
            by_cases e : j = k
            · rw [e]; exact h
            · exact HG.out j (by omega)
          obtain ⟨gr, hgr⟩ : ∃ gr, L.goesR (at0 xs k).1 = gr := ⟨_, rfl⟩
          rw [hgr] at HRT HS
          clear hgr hI d2 hq hqb
          cases gr with
          | true =>
            go_wp2_with (first
              | (go_at_call 8; refine (works_any _).mono ?_; rintro e w4 ⟨rfl, B4⟩; have HB4 := hid (HB3.out.trans (B4.mono HB3.out.size)); clear B4)
              | (go_at_call 21; refine HRT.out.mono ?_; rintro e w3 ⟨rfl, B3⟩; have HB3 := hid (HB.out.trans (B3.mono HB.out.size)); clear B3))
            go_ret
            exact ⟨rfl, HB02.out.trans (HB4.out.mono HB02.out.size)⟩
          | false =>
            have HS2 := hid (HS.out rfl)
            go_wp2_with (go_at_call 21; refine HRT.out.mono ?_; rintro e w3 ⟨rfl, B3⟩)
            go_roundw
            case rel => exact ⟨k + 1, by omega, by go_num, HS2, HB.out.trans (B3.mono HB.out.size)⟩
            case measure => simp [intOf]; omega
        · have HG1 : Hid (∀ j, j < n1 → L.goesR (at0 xs j).1 = false) := fun j hj => HG.out j (by omega)
          have hkz : ¬ (k : Int) < (n1 : Int) := by omega
          clear HG
          go_wp2_with fail
          -- the second name's labels
          go_loopw [12] (fun v12 wq => ∃ k : Nat, k ≤ n2 ∧ v12 = .int .i64 k ∧ Hid (∀ j, j < k → L.goesR (at0 ys j).1 = false) ∧ Hid (Below w2.heap.size w2 wq)) (fun v12 _ => n2 - (intOf v12).toNat)
          case atStart => exact ⟨0, Nat.zero_le _, rfl, (fun j hj => by omega), HB⟩
          case round =>
            clear HB hkz hk
            obtain ⟨k2, hk2, rfl, HG, HB⟩ := hrel
            by_cases hlt : k2 < n2
            · obtain ⟨g1, g2, ae, ce, q, rfl, rfl, hq, d1, d2, hI⟩ := HR2.out.at' HB.out k2 hlt
              have hqb := (HE2.out _ (at_mem (show k2 < ys.length by rw [HL2.out]; exact hlt))).2.1
              have HRT := hid (L.rright_any _ (at0 ys k2).1 _ (by omega) hI)
              have HS : Hid (L.goesR (at0 ys k2).1 = false → ∀ j, j < k2 + 1 → L.goesR (at0 ys j).1 = false) := fun h j hj => by
                by_cases e : j = k2
                · rw [e]; exact h
                · exact HG.out j (by omega)
              obtain ⟨gr, hgr⟩ : ∃ gr, L.goesR (at0 ys k2).1 = gr := ⟨_, rfl⟩
              rw [hgr] at HRT HS
              clear hgr hI d2 hq hqb
              cases gr with
              | true =>
                go_wp2_with (first
                  | (go_at_call 8; refine (works_any _).mono ?_; rintro e w4 ⟨rfl, B4⟩; have HB4 := hid (HB3.out.trans (B4.mono HB3.out.size)); clear B4)
                  | (go_at_call 21; refine HRT.out.mono ?_; rintro e w3 ⟨rfl, B3⟩; have HB3 := hid (HB.out.trans (B3.mono HB.out.size)); clear B3))
                go_ret
                exact ⟨rfl, HB02.out.trans (HB4.out.mono HB02.out.size)⟩
              | false =>
                have HS2 := hid (HS.out rfl)
                go_wp2_with (go_at_call 21; refine HRT.out.mono ?_; rintro e w3 ⟨rfl, B3⟩)
                go_roundw
                case rel => exact ⟨k2 + 1, by omega, by go_num, HS2, HB.out.trans (B3.mono HB.out.size)⟩
                case measure => simp [intOf]; omega
            · have HG2 : Hid (∀ j, j < n2 → L.goesR (at0 ys j).1 = false) := fun j hj => HG.out j (by omega)
              have hz := HTW.out (no_right HL1.out HG1.out) (no_right HL2.out HG2.out)
              subst hz
              have hk2z : ¬ (k2 : Int) < (n2 : Int) := by omega
              have HL3 : Hid ((xs ++ ys).length = n1 + n2) := by show _ = _; rw [List.length_append, HL1.out, HL2.out]
              rw [HL3.out] at HP3
              clear HG HG1 HG2 HTW
              go_wp2_with fail
              refine (HP3.out _).mono ?_
              rintro e w4 ⟨v4, f4, us4, rfl, hP4⟩
              have HR4 := hid hP4
              obtain ⟨ao4, co4, rfl⟩ := own_sh22 hP4.out
              obtain ⟨af4, cf4, rfl⟩ := own_sh16 hP4.flt
              have HB24 := hid (HB.out.trans (hP4.be.mono HB.out.size))
              have HB14 := hid (HB12.out.trans (HB24.out.mono HB12.out.size))
              have HB04 := hid (HB02.out.trans (HB24.out.mono HB02.out.size))
              obtain ⟨n3, hn3⟩ : ∃ n3, n1 + n2 = n3 := ⟨_, rfl⟩
              have hn3z : (n1 : Int) + (n2 : Int) = (n3 : Int) := by omega
              have hc3 : n3 ≤ 1202 := by omega
              have HN3 := hid hn3
              rw [hn3] at HR4 ⊢
              clear hP4 hn3
              go_wp2_with fail
              go_loopw [15] (fun v15 wq => ∃ k : Nat, k ≤ n3 ∧ v15 = .int .i64 k ∧ Hid (Below w4.heap.size w4 wq)) (fun v15 _ => n3 - (intOf v15).toNat)
              case atStart => exact ⟨0, Nat.zero_le _, rfl, Below.refl _ _⟩
              case round =>
                clear HB hk2z hk2
                obtain ⟨k3, hk3, rfl, HB⟩ := hrel
                by_cases hlt : k3 < n3
                · obtain ⟨g1, g2, ae, ce, q, rfl, rfl, hq, d1, d2, hI⟩ := HR4.out.at' HB.out k3 hlt
                  have HI := hid hI
                  have HQ := hid hq
                  clear hq hI
                  by_cases hl : k3 < n1
                  · obtain ⟨g3, g4, ae2, ce2, q2, rfl, rfl, hq2, d3, d4, hI2⟩ := HR1.out.at' (HB14.out.trans (HB.out.mono HB14.out.size)) k3 hl
                    have hqb := (HE1.out _ (at_mem (show k3 < xs.length by rw [HL1.out]; exact hl))).2.1
                    have ea := at_left xs ys k3 (by rw [HL1.out]; exact hl)
                    rw [ea] at d2 HI HQ
                    have HSM : Hid (∀ W, Below wr.heap.size wr W → Calls Tryz.prog 17 #[.slice ae q ce, .slice ae2 q2 ce2] W fun e W' => e = .returned (.bool true) ∧ Below W.heap.size W W') := fun W hW => by
                      have h := N.same_any _ _ (at0 xs k3).1 (at0 xs k3).1 W (by omega) (HI.out.below hW (Nat.le_refl _)) (hI2.below hW (Nat.le_refl _))
                      rw [decide_eq_true rfl] at h
                      exact h
                    obtain ⟨fk, hfk⟩ : ∃ fk, (at0 xs k3).2 = fk := ⟨_, rfl⟩
                    rw [hfk] at d2 d4
                    have hff : (fk != fk) = false := by simp
                    have hlz : (k3 : Int) < (n1 : Int) := by omega
                    have D4 := hid d4
                    clear hq2 hqb ea hI2 hfk
                    go_wp2_with fail
                    go_quiet (fail)
                    go_wp2_with (go_at_call 17; refine (HSM.out _ (D.below_drewN (Below.refl _ _) _)).mono ?_; rintro e w5 ⟨rfl, B5⟩; have d4' : w5.cell? ⟨g4, k3, none⟩ = some (.int .u16 fk) := ((B5.cell (p := ⟨g4, k3, none⟩) (U.lt_of_cell D4.out)).trans D4.out); have HB5 := hid (HB.out.trans (Below.mono (show Below wr.heap.size wr w5 from ((D.below_drewN (Below.refl _ _) _).trans B5)) HB.out.size)); clear B5)
                    go_roundw
                    case rel => exact ⟨k3 + 1, by omega, by go_num, HB5.out⟩
                    case measure => simp [intOf]; omega
                  · obtain ⟨j, hj⟩ : ∃ j, k3 = n1 + j := ⟨k3 - n1, by omega⟩
                    have hj2 : j < n2 := by have := HN3.out; omega
                    obtain ⟨g3, g4, ae2, ce2, q2, rfl, rfl, hq2, d3, d4, hI2⟩ := HR2.out.at' (HB24.out.trans (HB.out.mono HB24.out.size)) j hj2
                    have hqb := (HE2.out _ (at_mem (show j < ys.length by rw [HL2.out]; exact hj2))).2.1
                    have ea : at0 (xs ++ ys) k3 = at0 ys j := by rw [hj, ← HL1.out]; exact at_right xs ys j
                    rw [ea] at d2 HI HQ
                    have HSM : Hid (∀ W, Below wr.heap.size wr W → Calls Tryz.prog 17 #[.slice ae q ce, .slice ae2 q2 ce2] W fun e W' => e = .returned (.bool true) ∧ Below W.heap.size W W') := fun W hW => by
                      have h := N.same_any _ _ (at0 ys j).1 (at0 ys j).1 W (by omega) (HI.out.below hW (Nat.le_refl _)) (hI2.below hW (Nat.le_refl _))
                      rw [decide_eq_true rfl] at h
                      exact h
                    obtain ⟨fk, hfk⟩ : ∃ fk, (at0 ys j).2 = fk := ⟨_, rfl⟩
                    rw [hfk] at d2 d4
                    have hff : (fk != fk) = false := by simp
                    have hlz : ¬ (k3 : Int) < (n1 : Int) := by omega
                    have hlz2 : (n1 : Int) ≤ (k3 : Int) := by omega
                    have hjz : (k3 : Int) - (n1 : Int) = (j : Int) := by omega
                    have hjw : IntKind.i64.wrap (j : Int) = (j : Int) := by simp [IntKind.wrap, IntKind.bits, IntKind.signed]; omega
                    have D4 := hid d4
                    clear hq2 hqb ea hI2 hfk hj
                    go_wp2_with fail
                    go_quiet (fail)
                    go_wp2_with (go_at_call 17; refine (HSM.out _ (D.below_drewN (Below.refl _ _) _)).mono ?_; rintro e w5 ⟨rfl, B5⟩; have d4' : w5.cell? ⟨g4, j, none⟩ = some (.int .u16 fk) := ((B5.cell (p := ⟨g4, j, none⟩) (U.lt_of_cell D4.out)).trans D4.out); have HB5 := hid (HB.out.trans (Below.mono (show Below wr.heap.size wr w5 from ((D.below_drewN (Below.refl _ _) _).trans B5)) HB.out.size)); clear B5)
                    go_roundw
                    case rel => exact ⟨k3 + 1, by omega, by go_num, HB5.out⟩
                    case measure => simp [intOf]; omega
                · have hk3z : ¬ (k3 : Int) < (n3 : Int) := by omega
                  have HBz := hid (HB04.out.trans (HB.out.mono HB04.out.size))
                  go_wp2_with fail
                  refine (HA1.out _).mono ?_
                  rintro e w5 ⟨⟨x, ex, rfl, hX⟩, B5⟩
                  have HB5 := hid (HBz.out.trans (B5.mono HBz.out.size))
                  have HX := hid hX
                  clear B5 hX
                  go_wp2_with fail
                  refine (HA2.out _).mono ?_
                  rintro e w6 ⟨⟨y, ey, rfl, hY⟩, B6⟩
                  have HB6 := hid (HB5.out.trans (B6.mono HB5.out.size))
                  obtain ⟨z, kz, hz, hcase⟩ := says_two HX.out hY HN1.out HN2.out
                  have H3 := hid (fun W => HA3.out z kz W hz)
                  have HYY := hid hY
                  clear B6 hY hz
                  go_wp2_with fail
                  refine (H3.out _).mono ?_
                  rintro e w7 ⟨rfl, B7⟩
                  have HB7 := hid (HB6.out.trans (B7.mono HB6.out.size))
                  clear B7
                  have hxz : x.size ≤ 20000000 := asc_size HX.out (fun q hq => (HE1.out q hq).2.1) (by rw [HL1.out]; exact hc1)
                  have hyz : y.size ≤ 20000000 := asc_size HYY.out (fun q hq => (HE2.out q hq).2.1) (by rw [HL2.out]; exact hc2)
                  rcases hcase with ⟨rfl, rfl, rfl, rfl⟩ | ⟨hk0, hno⟩
                  · have hse := self_eqC ((x ++ ⟨#[46]⟩) ++ y)
                    have hs1 : (x ++ ⟨#[46]⟩).size = x.size + 1 := by rw [ByteArray.size_append]; rfl
                    go_wp2_with (go_at_call 8; refine (works_any _).mono ?_; rintro e w8 ⟨rfl, B8⟩)
                    go_ret
                    exact ⟨rfl, HB7.out.trans (B8.mono HB7.out.size)⟩
                  · have k1 : (kz == 0) = false := by simpa using hk0
                    have k2' : (kz != 0) = true := by simpa using hk0
                    by_cases he : ex = 0
                    · have hh : ¬ ey = 0 := fun h => hno ⟨he, h⟩
                      have k3' : (ey == 0) = false := by simpa using hh
                      subst he
                      clear hno
                      go_wp2_with (go_at_call 8; refine (works_any _).mono ?_; rintro e w8 ⟨rfl, B8⟩)
                      go_ret
                      exact ⟨rfl, HB7.out.trans (B8.mono HB7.out.size)⟩
                    · have k3' : (ex == 0) = false := by simpa using he
                      clear hno
                      go_wp2_with (go_at_call 8; refine (works_any _).mono ?_; rintro e w8 ⟨rfl, B8⟩)
                      go_ret
                      exact ⟨rfl, HB7.out.trans (B8.mono HB7.out.size)⟩
end Go.Proofs.YtdncaehajhmcoaaGreat.I
/- rows. -/
namespace Go.Proofs.YtdncaehajhmcoaaGreat.I
open Go.RowKit
set_option linter.unusedVariables false

/-- A row of rows. -/
structure Rr (W : World) (v : Value) (n : Nat) (ls : List (List Int)) : Prop where
  ex : ∃ base vs, W.ownsRow base 34 1 v n vs ∧ Els W vs ls
  len : ls.length = n
theorem Rr.below {W W' : World} {v : Value} {n : Nat} {ls : List (List Int)} (h : Rr W v n ls) (hb : Below W.heap.size W W') : Rr W' v n ls := by
  obtain ⟨base, vs, h1, h2⟩ := h.ex
  exact ⟨⟨base, vs, U.ownsRow_below h1 hb (Nat.le_refl _), h2.below hb⟩, h.len⟩
theorem Rr.sh {W : World} {v : Value} {n : Nat} {ls : List (List Int)} (h : Rr W v n ls) : ∃ a c, v = .slice a n c := by
  obtain ⟨base, vs, h1, h2⟩ := h.ex
  exact own_sh22 h1
theorem Rr.at {w W : World} {a : Option Addr} {n c : Nat} {ls : List (List Int)} (h : Rr w (.slice a n c) n ls) (hB : Below w.heap.size w W) (k : Nat) (hk : k < n) :
    ∃ g ae ce q, a = some ⟨g, 0, none⟩ ∧ (ls[k]?.getD []).length = q ∧ W.cell? ⟨g, k, none⟩ = some (.slice ae q ce) ∧ U.IntsAt W (.slice ae q ce) (ls[k]?.getD []) := by
  obtain ⟨base, vs, h1, h2⟩ := h.ex
  have hkl : k < ls.length := by rw [h.len]; exact hk
  obtain ⟨g, e, hc, -⟩ := row_cell h1 k hk
  have hel := h2.2 k hkl
  obtain ⟨ae, ce, hue⟩ := el_shape hel
  rw [hue] at hc hel
  exact ⟨g, ae, ce, _, e, rfl, (hB.cell (p := ⟨g, k, none⟩) (U.lt_of_cell hc)).trans hc, (hel.below hB).ints⟩
set_option maxRecDepth 100000 in
set_option maxHeartbeats 8000000 in
theorem rows_same (u v : Value) (n : Nat) (ls : List (List Int)) (w : World) (hn : n ≤ 100000) (hl : ∀ l ∈ ls, l.length ≤ 100000) (hu : Rr w u n ls) (hv : Rr w v n ls) :
    Calls Tryz.prog 15 #[u, v] w fun e W' => e = .returned (.bool true) ∧ Below w.heap.size w W' := by
  obtain ⟨a1, c1, rfl⟩ := hu.sh
  obtain ⟨a2, c2, rfl⟩ := hv.sh
  have HU := hid hu
  have HV := hid hv
  have HL := hid hl
  have HN := hid hu.len
  have hnn : ((n : Int) != (n : Int)) = false := by simp
  clear hu hv hl
  go_enter Tryz.func15, Tryz.ntmps15
  go_wp2_with fail
  go_loopw [5] (fun v5 wr => ∃ k : Nat, k ≤ n ∧ v5 = .int .i64 k ∧ Hid (Below w.heap.size w wr)) (fun v5 _ => n - (intOf v5).toNat)
  case atStart => exact ⟨0, Nat.zero_le _, rfl, Below.refl _ _⟩
  case round =>
    obtain ⟨k, hk, rfl, HB⟩ := hrel
    by_cases hlt : k < n
    · obtain ⟨g1, ae1, ce1, q1, rfl, hq1, d1, hI1⟩ := HU.out.at HB.out k hlt
      obtain ⟨g2, ae2, ce2, q2, rfl, hq2, d2, hI2⟩ := HV.out.at HB.out k hlt
      have hlb : (ls[k]?.getD []).length ≤ 100000 := HL.out _ (by
        rw [List.getElem?_eq_getElem (show k < ls.length by rw [HN.out]; exact hlt)]
        exact List.getElem_mem _)
      have HSM : Hid (∀ W, Below wr.heap.size wr W → Calls Tryz.prog 17 #[.slice ae1 q1 ce1, .slice ae2 q2 ce2] W fun e W' => e = .returned (.bool true) ∧ Below W.heap.size W W') := fun W hW => by
        have h := N.same_any _ _ (ls[k]?.getD []) (ls[k]?.getD []) W hlb (hI1.below hW (Nat.le_refl _)) (hI2.below hW (Nat.le_refl _))
        rw [decide_eq_true rfl] at h
        exact h
      clear hq1 hq2 hI1 hI2 hlb
      go_wp2_with fail
      go_region_with (go_at_call 17; refine (HSM.out _ ((Below.refl _ _).drew)).mono ?_; rintro e w5 ⟨rfl, B5⟩; have HB5 := hid (HB.out.trans (Below.mono (show Below wr.heap.size wr w5 from (((Below.refl _ _).drew).trans B5)) HB.out.size)); clear B5)
      all_goals (
        go_wp2
        go_roundw
        case rel => exact ⟨k + 1, by omega, by go_num, HB5.out⟩
        case measure => simp [intOf]; omega)
    · have hkz : ¬ (k : Int) < (n : Int) := by omega
      go_wp2
      go_ret
      exact ⟨rfl, HB.out⟩
end Go.Proofs.YtdncaehajhmcoaaGreat.I
/- IdnaTells: the walk. -/
namespace Go.Proofs.YtdncaehajhmcoaaGreat.I
open Go.RowKit
set_option linter.unusedVariables false

theorem rascii_is (s : ByteArray) (hy long : Bool) (w : World) (hs : s.size ≤ 1200) {t : ByteArray} {r : Int} (h : AscS (prc (Mp (U.dec (U.bn s))) hy) long t r) :
    Calls Tryz.prog 10 #[.string s, .bool hy, .bool long] w fun e W' => e = .returned (.tuple #[.string t, .int .i64 r]) ∧ Below w.heap.size w W' :=
  (rascii_any s hy long w hs).mono (by
    rintro e W' ⟨⟨t', r', rfl, h'⟩, hB⟩
    obtain ⟨rfl, rfl⟩ := asc_one_way h h'
    exact ⟨rfl, hB⟩)
theorem runi_is (s : ByteArray) (hy : Bool) (w : World) (hs : s.size ≤ 1200) {t : ByteArray} (h : U.bn t = U.encs (join ((prc (Mp (U.dec (U.bn s))) hy).map (·.1)))) :
    Calls Tryz.prog 12 #[.string s, .bool hy] w fun e W' => e = .returned (.tuple #[.string t, .bool (noF (prc (Mp (U.dec (U.bn s))) hy))]) ∧ Below w.heap.size w W' :=
  (runi_any s hy w hs).mono (by
    rintro e W' ⟨⟨t', r', rfl, h'⟩, hB⟩
    have hsc : (join ((prc (Mp (U.dec (U.bn s))) hy).map (·.1))).all U.scal = true := by
      rw [List.all_eq_true]
      refine join_all (p := fun c => U.scal c = true) (by decide) _ (fun a ha => ?_)
      obtain ⟨x, hx, rfl⟩ := List.mem_map.1 ha
      exact prc_scal hy (Mp_scal _ (dec_scs _ (U.bn_bytes s))) x hx
    rcases h' with ⟨_, _, h'⟩ | ⟨h', _⟩
    · obtain rfl := P.bn_inj (h.trans h'.symm)
      exact ⟨rfl, hB⟩
    · rw [hsc] at h'; cases h')
set_option maxRecDepth 100000 in
set_option maxHeartbeats 2000000 in
theorem rascii_long (s : ByteArray) (hy long : Bool) (w : World) (h1 : 4096 < s.size) (h2 : s.size ≤ 1000000) :
    Calls Tryz.prog 10 #[.string s, .bool hy, .bool long] w fun e W' => e = .returned (.tuple #[.string ⟨#[]⟩, .int .i64 4]) ∧ Below w.heap.size w W' := by
  go_enter Tryz.func10, Tryz.ntmps10
  go_wp2
  go_ret2
  exact ⟨rfl, Below.refl _ _⟩
set_option maxRecDepth 100000 in
set_option maxHeartbeats 2000000 in
theorem runi_long (s : ByteArray) (hy : Bool) (w : World) (h1 : 4096 < s.size) (h2 : s.size ≤ 1000000) :
    Calls Tryz.prog 12 #[.string s, .bool hy] w fun e W' => e = .returned (.tuple #[.string ⟨#[]⟩, .bool false]) ∧ Below w.heap.size w W' := by
  go_enter Tryz.func12, Tryz.ntmps12
  go_wp2
  go_ret2
  exact ⟨rfl, Below.refl _ _⟩
theorem Pr.rr {w0 w : World} {vo vf : Value} {n : Nat} {vs : List Value} {xs : List (List Int × Int)} (h : Pr w0 w vo vf n vs xs) : Rr w vo n (xs.map (·.1)) := ⟨⟨_, vs, h.out, h.els⟩, by rw [List.length_map]; exact h.len.symm⟩
set_option maxRecDepth 100000 in
set_option maxHeartbeats 8000000 in
theorem tells_big (s : ByteArray) (hy long : Bool) (w : World) (hs : s.size ≤ maxLen) (h6 : 600 < s.size) :
    Calls Tryz.prog 3 #[.string s, .bool hy, .bool long] w fun e W' => e = .returned (.bool true) ∧ Below w.heap.size w W' := by
  unfold maxLen at hs
  have h6z : (600 : Int) < (s.size : Int) := by omega
  by_cases h4 : s.size ≤ 4096
  · have h4z : (s.size : Int) ≤ 4096 := by omega
    go_enter Tryz.func3, Tryz.ntmps3
    go_wp2_with (go_at_call 8; refine (works_any _).mono ?_; rintro e w1 ⟨rfl, B1⟩)
    go_ret
    exact ⟨rfl, B1⟩
  · have h4z : ¬ (s.size : Int) ≤ 4096 := by omega
    by_cases h14 : 16384 < s.size
    · have h14z : (16384 : Int) < (s.size : Int) := by omega
      go_enter Tryz.func3, Tryz.ntmps3
      go_wp2_with (go_at_call 8; refine (works_any _).mono ?_; rintro e w1 ⟨rfl, B1⟩)
      go_ret
      exact ⟨rfl, B1⟩
    · have h14z : ¬ (16384 : Int) < (s.size : Int) := by omega
      have H1 := hid (fun W => ascii_long s hy long W (by omega) (by omega))
      have H2 := hid (fun W => rascii_long s hy long W (by omega) (by omega))
      have H3 := hid (fun W => unicode_long s hy W (by omega) (by omega))
      have H4 := hid (fun W => runi_long s hy W (by omega) (by omega))
      go_enter Tryz.func3, Tryz.ntmps3
      go_wp2_with fail
      refine (H1.out _).mono ?_
      rintro e w1 ⟨rfl, B1⟩
      have HB1 := hid B1
      clear B1
      go_wp2_with fail
      refine (H2.out _).mono ?_
      rintro e w2 ⟨rfl, B2⟩
      have HB2 := hid (HB1.out.trans (B2.mono HB1.out.size))
      clear B2
      go_wp2_with fail
      refine (H3.out _).mono ?_
      rintro e w3 ⟨rfl, B3⟩
      have HB3 := hid (HB2.out.trans (B3.mono HB2.out.size))
      clear B3
      go_wp2_with fail
      refine (H4.out _).mono ?_
      rintro e w4 ⟨rfl, B4⟩
      have HB4 := hid (HB3.out.trans (B4.mono HB3.out.size))
      clear B4
      go_wp2_with (go_at_call 8; refine (works_any _).mono ?_; rintro e w5 ⟨rfl, B5⟩)
      go_ret
      exact ⟨rfl, HB4.out.trans (B5.mono HB4.out.size)⟩
end Go.Proofs.YtdncaehajhmcoaaGreat.I
/- IdnaTells: texts of at most 600 bytes. -/
namespace Go.Proofs.YtdncaehajhmcoaaGreat.I
open Go.RowKit
set_option linter.unusedVariables false

theorem Rr.gives {w W : World} {v : Value} {ls : List (List Int)} {vs : List Value} (h1 : W.ownsRow w.heap.size 34 1 v ls.length vs) (h2 : Els W vs ls) : Rr W v ls.length ls := ⟨⟨_, vs, h1, h2⟩, rfl⟩
theorem spl_small (X : List Int) (h : X.length ≤ 10000) : ∀ l ∈ spl X, l.length ≤ 100000 := fun l hl => by
  have := spl_each X l hl
  omega
set_option maxRecDepth 100000 in
set_option maxHeartbeats 16000000 in
theorem tells_small (s : ByteArray) (hy long : Bool) (w : World) (h6 : s.size ≤ 600) :
    Calls Tryz.prog 3 #[.string s, .bool hy, .bool long] w fun e W' => e = .returned (.bool true) ∧ Below w.heap.size w W' := by
  have h6z : ¬ (600 : Int) < (s.size : Int) := by omega
  have h14z : ¬ (16384 : Int) < (s.size : Int) := by omega
  have H1 := hid (fun W => ascii_says s hy long W (by omega))
  have H2 := hid (fun t r W h => rascii_is s hy long W (by omega) (t := t) (r := r) h)
  have H3 := hid (fun W => unicode_any s hy W (by omega))
  have H4 := hid (fun t W h => runi_is s hy W (by omega) (t := t) h)
  have H5 := hid (fun W => process_any s hy W (by omega))
  have H6 := hid (fun W => rprocess_any s hy W (by omega))
  have H7 := hid (fun W => rMap_any s W (by omega))
  have H8 := hid (fun W => map_any s W (by omega))
  have hml := Mp_lenl (U.bn s) (U.bn_bytes s)
  rw [U.bn_length] at hml
  have HEA := hid (prc_eachK _ hy (by omega) (Mp_scal _ (dec_scs _ (U.bn_bytes s))))
  have hxl := prc_len (Mp (U.dec (U.bn s))) hy
  have hsl := spl_length (Mp (U.dec (U.bn s)))
  obtain ⟨xs, hxs⟩ : ∃ xs, prc (Mp (U.dec (U.bn s))) hy = xs := ⟨_, rfl⟩
  rw [hxs] at H1 H2 H3 H4 H5 H6 HEA hxl
  obtain ⟨X, hX⟩ : ∃ X, Mp (U.dec (U.bn s)) = X := ⟨_, rfl⟩
  rw [hX] at H7 H8 hml hsl hxl
  obtain ⟨nX, hnX⟩ : ∃ n, X.length = n := ⟨_, rfl⟩
  have HNX := hid hnX
  obtain ⟨n, hn⟩ : ∃ n, xs.length = n := ⟨_, rfl⟩
  have HN := hid hn
  obtain ⟨nf, hnf⟩ : ∃ nf, noF xs = nf := ⟨_, rfl⟩
  rw [hnf] at H3 H4
  unfold ProcR at H5 H6
  rw [hn] at H5 H6 hxl
  unfold N.Gives at H7 H8
  rw [hnX] at H7 H8 hml hsl
  obtain ⟨nS, hnS⟩ : ∃ n, (spl X).length = n := ⟨_, rfl⟩
  have HNS := hid hnS
  rw [hnS] at hsl hxl
  have hc1 : nX ≤ 1200 := by omega
  have hc2 : nS ≤ 1201 := by omega
  have hc3 : n ≤ 1201 := by omega
  have HLS := hid (spl_small X (by omega))
  have hnn : ((n : Int) != (n : Int)) = false := by simp
  have hbb : (nf != nf) = false := by simp
  clear hxs hX hnX hn hnf hml hxl hsl hnS
  go_enter Tryz.func3, Tryz.ntmps3
  go_wp2_with fail
  refine (H1.out _).mono ?_
  rintro e w1 ⟨⟨t1, r1, rfl, hS⟩, B1⟩
  have HB1 := hid B1
  have HS2 := hid (fun W => H2.out t1 r1 W hS)
  have hse1 := self_eqC t1
  have hre : (r1 != r1) = false := by simp
  clear B1 hS
  go_wp2_with fail
  refine (HS2.out _).mono ?_
  rintro e w2 ⟨rfl, B2⟩
  have HB2 := hid (HB1.out.trans (B2.mono HB1.out.size))
  clear B2
  go_wp2_with fail
  refine (H3.out _).mono ?_
  rintro e w3 ⟨⟨u, rfl, hu⟩, B3⟩
  have HB3 := hid (HB2.out.trans (B3.mono HB2.out.size))
  have HU := hid (fun W => H4.out u W hu)
  have hse2 := self_eqC u
  clear B3 hu
  go_wp2_with fail
  refine (HU.out _).mono ?_
  rintro e w4 ⟨rfl, B4⟩
  have HB4 := hid (HB3.out.trans (B4.mono HB3.out.size))
  clear B4
  go_wp2_with fail
  refine (H5.out _).mono ?_
  rintro e w5 ⟨v5, f5, us5, rfl, hP5⟩
  have HP5 := hid hP5
  obtain ⟨ao5, co5, rfl⟩ := own_sh22 hP5.out
  obtain ⟨af5, cf5, rfl⟩ := own_sh16 hP5.flt
  have HB5 := hid (HB4.out.trans (hP5.be.mono HB4.out.size))
  clear hP5
  go_wp2_with fail
  refine (H6.out _).mono ?_
  rintro e w6 ⟨v6, f6, us6, rfl, hP6⟩
  have HP6 := hid hP6
  obtain ⟨ao6, co6, rfl⟩ := own_sh22 hP6.out
  obtain ⟨af6, cf6, rfl⟩ := own_sh16 hP6.flt
  have HB56 := hid hP6.be
  have HB6 := hid (HB5.out.trans (hP6.be.mono HB5.out.size))
  have HRO := hid (rows_same _ _ n (xs.map (·.1)) w6 (by omega) (fun l hl => by
    obtain ⟨x, hx, rfl⟩ := List.mem_map.1 hl
    have := (HEA.out x hx).2.1
    omega) (HP5.out.rr.below hP6.be) hP6.rr)
  clear hP6
  go_wp2_with fail
  refine HRO.out.mono ?_
  rintro e w7 ⟨rfl, B7⟩
  have HB67 := hid B7
  have HB7 := hid (HB6.out.trans (B7.mono HB6.out.size))
  clear B7
  go_wp2_with fail
  go_loopw [19] (fun v19 wq => ∃ k : Nat, k ≤ n ∧ v19 = .int .i64 k ∧ Hid (Below w7.heap.size w7 wq)) (fun v19 _ => n - (intOf v19).toNat)
  case atStart => exact ⟨0, Nat.zero_le _, rfl, Below.refl _ _⟩
  case round =>
    obtain ⟨k, hk, rfl, HB⟩ := hrel
    by_cases hlt : k < n
    · have HB6r := hid (HB67.out.trans (HB.out.mono HB67.out.size))
      have HB5r := hid (HB56.out.trans (HB6r.out.mono HB56.out.size))
      obtain ⟨g1, g2, ae, ce, q, rfl, rfl, hq, d1, d2, hI⟩ := HP5.out.at' HB5r.out k hlt
      obtain ⟨g3, g4, ae2, ce2, q2, rfl, rfl, hq2, d3, d4, hI2⟩ := HP6.out.at' HB6r.out k hlt
      obtain ⟨fk, hfk⟩ : ∃ fk, (at0 xs k).2 = fk := ⟨_, rfl⟩
      rw [hfk] at d2 d4
      have hff : (fk != fk) = false := by simp
      clear hq hq2 hI hI2 hfk d1 d3
      go_wp2_with fail
      go_quiet (fail)
      go_wp2_with fail
      go_roundw
      case rel => exact ⟨k + 1, by omega, by go_num, D.below_drewN HB.out _⟩
      case measure => simp [intOf]; omega
    · have hkz : ¬ (k : Int) < (n : Int) := by omega
      have HBz := hid (HB7.out.trans (HB.out.mono HB7.out.size))
      clear HP5 HP6 HB67 HB56
      go_wp2_with fail
      refine (H7.out _).mono ?_
      rintro e w8 ⟨v8, rfl, r8, B8⟩
      have HR8 := hid r8
      obtain ⟨a8, c8, rfl⟩ := own_sh21 r8
      have HB8 := hid (HBz.out.trans (B8.mono HBz.out.size))
      clear r8 B8
      go_wp2_with fail
      refine (H8.out _).mono ?_
      rintro e w9 ⟨v9, rfl, r9, B9⟩
      have HI9 := hid (U.IntsAt.own HNX.out.symm r9)
      obtain ⟨a9, c9, rfl⟩ := own_sh21 r9
      have HR8' := hid (U.ownsRow_below HR8.out B9 (Nat.le_refl _))
      have HB9 := hid (HB8.out.trans (B9.mono HB8.out.size))
      have HSM := hid (N.same_any _ _ X X w9 (by have := HNX.out; omega) HI9.out (U.IntsAt.own HNX.out.symm HR8'.out))
      rw [decide_eq_true rfl] at HSM
      clear r9 B9
      go_wp2_with fail
      refine HSM.out.mono ?_
      rintro e w10 ⟨rfl, B10⟩
      have HR10 := hid (U.ownsRow_below HR8'.out B10 (Nat.le_refl _))
      have HB10 := hid (HB9.out.trans (B10.mono HB9.out.size))
      clear B10
      have HSR := hid (U.SrcInts.own HNX.out.symm HR10.out)
      have HIX := hid (U.IntsAt.own HNX.out.symm HR10.out)
      go_wp2_with (at_builtin; refine N.wpList_unguard (by rfl) ?_; refine U.wpList_append_ints rfl _ _ rfl w10.heap.size _ 0 [] rfl (World.ownsRow_nil _ _ _ _) _ X rfl HSR.out (by have := HNX.out; omega) (Nat.le_refl _) ?_; intro v11 w11 r11 g11; rw [HNX.out, Nat.zero_add, List.nil_append] at r11; obtain ⟨a11, c11, rfl⟩ := own_sh21 r11; have HE11 := hid (El.own HNX.out.symm r11); have HB11 := hid (U.below_grow (e := 21) (size := 1) (n := 0) (xs := []) (Below.refl _ _) (Nat.le_refl _) (World.ownsRow_nil _ _ _ _) g11); clear r11 g11)
      refine (split_any _ X _ (by have := HNX.out; omega) HE11.out).mono ?_
      rintro e w12 ⟨v12, us12, rfl, r12, e12, B12⟩
      have HRR12 := hid (Rr.gives (w := w11) r12 e12)
      rw [HNS.out] at r12 HRR12
      obtain ⟨a12, c12, rfl⟩ := own_sh22 r12
      have HB1112 := hid (HB11.out.trans (B12.mono HB11.out.size))
      have HB12 := hid (HB10.out.trans (HB1112.out.mono HB10.out.size))
      have HS13 := hid (rsplit_any _ X w12 (by have := HNX.out; omega) (HIX.out.below HB1112.out (Nat.le_refl _)))
      clear r12 e12 B12
      go_wp2_with fail
      refine HS13.out.mono ?_
      rintro e w13 ⟨v13, us13, rfl, r13, e13, B13⟩
      have HRR13 := hid (Rr.gives (w := w12) r13 e13)
      rw [HNS.out] at r13 HRR13
      obtain ⟨a13, c13, rfl⟩ := own_sh22 r13
      have HB13 := hid (HB12.out.trans (B13.mono HB12.out.size))
      have HRW := hid (rows_same _ _ nS (spl X) w13 (by omega) HLS.out (HRR12.out.below B13) HRR13.out)
      clear r13 e13 B13
      go_wp2_with (first
        | (go_at_call 8; refine (works_any _).mono ?_; rintro e w15 ⟨rfl, B15⟩; have HB15 := hid (HB14.out.trans (B15.mono HB14.out.size)); clear B15)
        | (go_at_call 15; refine HRW.out.mono ?_; rintro e w14 ⟨rfl, B14⟩; have HB14 := hid (HB13.out.trans (B14.mono HB13.out.size)); clear B14))
      go_ret
      exact ⟨rfl, HB15.out⟩
theorem tells_walk (s : ByteArray) (hy long : Bool) (w : World) (hs : s.size ≤ maxLen) :
    Calls Tryz.prog 3 #[.string s, .bool hy, .bool long] w fun e W' => e = .returned (.bool true) ∧ Below w.heap.size w W' := by
  by_cases h6 : 600 < s.size
  · exact tells_big s hy long w hs h6
  · exact tells_small s hy long w (by omega)
end Go.Proofs.YtdncaehajhmcoaaGreat.I
namespace Go.Proofs.YtdncaehajhmcoaaGreat
open Go.ChangeShapes Go.WideShapes Go.ChangeAt Go.RowKit
open Go.ChangeMaps (open_string shut_string)
set_option linter.unusedVariables false

theorem idnaTells_own : ownKnob Tryz.prog.godebug = none := by kernel_rfl
theorem idnaTells_laidOut : laidOutB Tryz.prog = true := by kernel_rfl

set_option maxRecDepth 100000 in
theorem idnaTells_lifted (os : Os) (started : os.Started) (H : Type) (enc : TypeId × Value → H) :
    ReturnsInHanded {} Tryz.checked os 3 .any (Rows.idnaTellsSpec.pre6 enc Tryz.prog Tryz.f3 Rows.idnaTellsRow.domain false) (Rows.idnaTellsSpec.post enc Tryz.prog Tryz.f3 false true false false) := by
  refine returnsInHanded_of_change (C := Tryz.checked) idnaTells_own started (by kernel_rfl) Tryz.func3
    (ChangeSpec.witness6 (enc := enc) (C := Tryz.checked) false ⟨#[], #[.string ByteArray.empty, .bool false, .bool false], []⟩ 8 (by kernel_rfl) (by kernel_rfl) (by kernel_rfl) (by kernel_rfl)) ?_
  intro W base args ds gs before hval0 hW hcnd _
  have hval : ∀ (j : Nat) t v, Tryz.f3.params[j]? = some t → args[j]? = some v → Value.okWide Tryz.prog W .any base t v := hval0
  have hW' := hW
  obtain ⟨p, q, hA0, hV, rfl, hfz, hnd⟩ := hW
  have hA : DataW.TrodAll enc Tryz.prog W 0 (fun _ => true) true Tryz.f3.params.toList args.toList ds p := hA0
  rw [Tryz.params3] at hA hval
  obtain ⟨v0, vs0, d0, ds0, p0, q0, hargs, rfl, rfl, h0, r0⟩ := trodAll_cons hA
  obtain ⟨v1, vs1, d1, ds1, p1, q1, rfl, rfl, rfl, h1, r1⟩ := trodAll_cons r0
  obtain ⟨v2, vs2, d2, ds2, p2, q2, rfl, rfl, rfl, h2, r2⟩ := trodAll_cons r1
  obtain ⟨rfl, rfl, rfl⟩ := trodAll_nil r2
  obtain rfl : args = #[v0, v1, v2] := by cases args; simp_all
  obtain ⟨rfl, rfl⟩ := trodVars_none hV
  obtain ⟨a0, rfl, rfl, rfl, w0⟩ := open_string Tryz.underlying9 (hval 0 9 v0 rfl rfl) h0
  obtain ⟨a1, rfl, rfl, rfl⟩ := open_bool Tryz.underlying4 (hval 1 4 v1 rfl rfl) h1
  obtain ⟨a2, rfl, rfl, rfl⟩ := open_bool Tryz.underlying4 (hval 2 4 v2 rfl rfl) h2
  clear hA0 hval0
  refine (I.tells_walk a0 a1 a2 W w0).mono fun e W' ⟨he, bel⟩ => ?_
  subst he
  exact ⟨_, rfl, _, _, _, [], _, [], hW', trodAll_mk1 (shut_bool Tryz.underlying4 _), (trodAll_cons_mk (shut_string Tryz.underlying9 w0) (trodAll_cons_mk (shut_bool Tryz.underlying4 _) (trodAll_cons_mk (shut_bool Tryz.underlying4 _) trodAll_mk0))), rfl, bel.frame _, fun h => by cases h⟩

theorem idnaTells_over : Rows.idnaTellsRow.holds Tryz.pinned (OpenSpec.ofChange Rows.idnaTellsSpec) :=
  OpenClaim.holds_of_wide 3 Tryz.f3 rfl rfl rfl rfl rfl rfl rfl ⟨rfl, rfl, rfl, rfl, rfl⟩ rfl rfl rfl rfl rfl (by kernel_rfl) Tryz.func3 (by kernel_rfl)
    (of_decide_eq_true (by kernel_rfl)) (by unfold Func.isWrapper; first | (rw [if_pos (by decide +kernel)]; kernel_rfl) | (rw [if_neg (by decide +kernel)]; exact ⟨rfl, rfl⟩))
    (fun os started H enc _ => idnaTells_lifted os started H enc)

/-- The statement. -/
theorem idnaTells_holds : Rows.IdnaTellsSaid := idnaTells_over
#print axioms idnaTells_holds
end Go.Proofs.YtdncaehajhmcoaaGreat
