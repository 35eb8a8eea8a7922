/- The statement IdnaRests: what was made ASCII stays so, and its Unicode comes to the same; for every input, without any condition: the call returns true and its arguments read behind it as they read before. -/
import Derived.Test.YtdncaehajhmcoaaGreatZK6
import Derived.Test.YtdncaehajhmcoaaGreatZK7
import Derived.Test.YtdncaehajhmcoaaGreatZP8
import Derived.Test.YtdncaehajhmcoaaGreatRows
import Derived.WalkKit
import Derived.ProofKit
import Derived.OpenShut
import Derived.ShutString
import Derived.ChangeOld
import Derived.Below
/- What is answered is told by the text alone; some names; works. -/
namespace Go.Proofs.YtdncaehajhmcoaaGreat.I
open Go.RowKit
set_option linter.unusedVariables false

/-! ### One answer -/
theorem part_one_way {l p q : List Int} (h : Part l p) (k : Part l q) : p = q := by
  rcases h with ⟨h1, rfl⟩ | ⟨h1, T, hE, _, _, _, rfl⟩
  · exact ((plain_part h1 q).1 k).symm
  · rcases k with ⟨k1, _⟩ | ⟨_, T', hE', _, _, _, rfl⟩
    · rw [h1] at k1; cases k1
    · rw [hE.one hE']
theorem parts_one_way {xs : List (List Int × Int)} {ts us : List ByteArray} (h : PartsR xs ts) (k : PartsR xs us) : ts.map U.bn = us.map U.bn := by
  apply List.ext_getElem
  · simp [h.1, k.1]
  · intro i h1 h2
    rw [List.length_map] at h1 h2
    have hi : i < xs.length := by rw [← h.1]; exact h1
    have a := (h.2 i hi).2
    have b := (k.2 i hi).2
    rw [List.getElem?_eq_getElem hi, List.getElem?_eq_getElem h1] at a
    rw [List.getElem?_eq_getElem hi, List.getElem?_eq_getElem h2] at b
    simp only [List.getElem_map]
    exact part_one_way a b
/-- What ASCII says: a text, and an error. -/
def AscS (xs : List (List Int × Int)) (long : Bool) (t : ByteArray) (r : Int) : Prop :=
  (BadP xs ∧ t = ⟨#[]⟩ ∧ r = 70) ∨ (∃ ts, PartsR xs ts ∧ ((long = true ∧ badL (ts.map U.bn) ∧ t = ⟨#[]⟩ ∧ r = 4) ∨ (¬ (long = true ∧ badL (ts.map U.bn)) ∧ U.bn t = join (ts.map U.bn) ∧ r = 0)))
theorem asc_one_way {xs : List (List Int × Int)} {long : Bool} {t u : ByteArray} {r q : Int} (h : AscS xs long t r) (k : AscS xs long u q) : t = u ∧ r = q := by
  rcases h with ⟨h1, rfl, rfl⟩ | ⟨ts, h1, h2⟩
  · rcases k with ⟨k1, rfl, rfl⟩ | ⟨us, k1, _⟩
    · exact ⟨rfl, rfl⟩
    · exact absurd h1 (parts_bad k1)
  · rcases k with ⟨k1, _⟩ | ⟨us, k1, k2⟩
    · exact absurd k1 (parts_bad h1)
    · rw [parts_one_way h1 k1] at h2
      rcases h2 with ⟨a, b, rfl, rfl⟩ | ⟨a, b, rfl⟩
      · rcases k2 with ⟨_, _, rfl, rfl⟩ | ⟨c, _⟩
        · exact ⟨rfl, rfl⟩
        · exact absurd ⟨a, b⟩ c
      · rcases k2 with ⟨c, d, _⟩ | ⟨c, d, rfl⟩
        · exact absurd ⟨c, d⟩ a
        · exact ⟨P.bn_inj (b.trans d.symm), rfl⟩
/-- What ASCII answers. -/
theorem ascii_says (s : ByteArray) (hy long : Bool) (w : World) (hs : s.size ≤ 4096) :
    Calls Tryz.prog 9 #[.string s, .bool hy, .bool long] w fun e W' => (∃ t r, e = .returned (.tuple #[.string t, .int .i64 r]) ∧ AscS (prc (Mp (U.dec (U.bn s))) hy) long t r) ∧ Below w.heap.size w W' := ascii_any s hy long w hs
/-- Where the answer is known. -/
theorem ascii_is (s : ByteArray) (hy long : Bool) (w : World) (hs : s.size ≤ 4096) {t : ByteArray} {r : Int} (h : AscS (prc (Mp (U.dec (U.bn s))) hy) long t r) :
    Calls Tryz.prog 9 #[.string s, .bool hy, .bool long] w fun e W' => e = .returned (.tuple #[.string t, .int .i64 r]) ∧ Below w.heap.size w W' :=
  (ascii_says s hy long w hs).mono (by
    rintro e W' ⟨⟨t', r', rfl, h'⟩, hB⟩
    obtain ⟨rfl, rfl⟩ := asc_one_way h h'
    exact ⟨rfl, hB⟩)
theorem unicode_is (s : ByteArray) (hy : Bool) (w : World) (hs : s.size ≤ 4096) {t : ByteArray} (h : U.bn t = U.encs (join ((prc (Mp (U.dec (U.bn s))) hy).map (·.1)))) :
    Calls Tryz.prog 11 #[.string s, .bool hy] w fun e W' => e = .returned (.tuple #[.string t, .bool (noF (prc (Mp (U.dec (U.bn s))) hy))]) ∧ Below w.heap.size w W' :=
  (unicode_any s hy w hs).mono (by
    rintro e W' ⟨⟨t', rfl, h'⟩, hB⟩
    obtain rfl := P.bn_inj (h.trans h'.symm)
    exact ⟨rfl, hB⟩)

/-! ### Some names -/
def s1 : ByteArray := ⟨#[66, 195, 156, 67, 72, 69, 82, 46, 101, 120, 97, 109, 112, 108, 101]⟩
def s2 : ByteArray := ⟨#[120, 110, 45, 45, 97]⟩
def s3 : ByteArray := ⟨#[97, 46, 46, 98]⟩
def s4 : ByteArray := ⟨#[88, 78, 45, 45, 66, 67, 72, 69, 82, 45, 75, 86, 65]⟩
def exm : List Int := [101, 120, 97, 109, 112, 108, 101]
theorem spl_s1 : spl (Mp (U.dec (U.bn s1))) = [P.word, exm] := by decide +kernel
theorem spl_s2 : spl (Mp (U.dec (U.bn s2))) = [[120, 110, 45, 45, 97]] := by decide +kernel
theorem spl_s3 : spl (Mp (U.dec (U.bn s3))) = [[97], [], [98]] := by decide +kernel
theorem spl_s4 : spl (Mp (U.dec (U.bn s4))) = [[120, 110, 45, 45] ++ P.wordT] := by decide +kernel
theorem one_word (hy : Bool) : one P.word false = (P.word, 0) := by
  rw [one_a (by decide)]
  exact Prod.ext rfl (by decide +kernel)
theorem one_ex : one exm false = (exm, 0) := by
  rw [one_a (by decide)]
  exact Prod.ext rfl (by decide +kernel)
theorem prc_s1 : prc (Mp (U.dec (U.bn s1))) false = [(P.word, 0), (exm, 0)] := by
  unfold prc
  rw [spl_s1]
  simp only [List.map_cons, List.map_nil, one_word false, one_ex]
  rw [if_neg (by decide +kernel)]
theorem prc_s3 : prc (Mp (U.dec (U.bn s3))) false = [([97], 0), ([], 0), ([98], 0)] := by
  unfold prc
  rw [spl_s3]
  have e1 : one [97] false = ([97], 0) := by rw [one_a (by decide)]; exact Prod.ext rfl (by decide +kernel)
  have e2 : one [] false = ([], 0) := by rw [one_a (by decide)]; rfl
  have e3 : one [98] false = ([98], 0) := by rw [one_a (by decide)]; exact Prod.ext rfl (by decide +kernel)
  simp only [List.map_cons, List.map_nil, e1, e2, e3]
  rw [if_neg (by decide +kernel)]
theorem prc_s4 : prc (Mp (U.dec (U.bn s4))) false = [(P.word, 0)] := by
  have e1 : one ([120, 110, 45, 45] ++ P.wordT) false = (P.word, 0) := (part_one (hy := false) (l := P.word) (by decide +kernel) (.inr ⟨by decide, P.wordT, P.word_enc, by decide, by decide, by decide, rfl⟩)).1
  unfold prc
  rw [spl_s4]
  simp only [List.map_cons, List.map_nil, e1]
  rw [if_neg (by decide +kernel)]
theorem enc_80 : P.Enc [128] [97] := by
  refine ⟨[0], ?_, by decide⟩
  show _ = P.hd (P.plain [128]) ++ ([] ++ P.wn 72 36 0)
  rw [P.wn_less 72 36 0 (by decide)]
  decide
theorem bad_s2 : BadP (prc (Mp (U.dec (U.bn s2))) false) := by
  have e1 : one [120, 110, 45, 45, 97] false = ([128], L.flt [128] false) := by
    have hd := (P.dec_enc enc_80 (by decide) (by decide)).1
    unfold one
    rw [if_neg (by decide), if_neg (by decide)]
    have : rdx (List.drop 4 [120, 110, 45, 45, 97]) = some [128] := by
      show rdx [97] = _
      unfold rdx
      rw [if_neg (by decide), if_neg (by decide), hd]
    rw [this]
    rfl
  have hf : L.flt [128] false ≠ 0 := by decide +kernel
  have e2 : prc (Mp (U.dec (U.bn s2))) false = [([128], L.flt [128] false)] := by
    unfold prc
    rw [spl_s2]
    simp only [List.map_cons, List.map_nil, e1]
    rw [if_neg (by decide +kernel)]
  rw [e2]
  exact ⟨_, List.mem_singleton.2 rfl, .inl hf⟩
def t1 : ByteArray := ⟨#[120, 110, 45, 45, 98, 99, 104, 101, 114, 45, 107, 118, 97, 46, 101, 120, 97, 109, 112, 108, 101]⟩
def t4 : ByteArray := ⟨#[98, 195, 188, 99, 104, 101, 114]⟩
theorem says1 : AscS (prc (Mp (U.dec (U.bn s1))) false) true t1 0 := by
  rw [prc_s1]
  refine .inr ⟨[⟨#[120, 110, 45, 45, 98, 99, 104, 101, 114, 45, 107, 118, 97]⟩, ⟨#[101, 120, 97, 109, 112, 108, 101]⟩], ?_, .inr ⟨?_, by decide, rfl⟩⟩
  · have h1 : PartsR ([] ++ [(P.word, 0)]) ([] ++ [⟨#[120, 110, 45, 45, 98, 99, 104, 101, 114, 45, 107, 118, 97]⟩]) := PartsR.nil.snoc rfl (.inr ⟨by decide, P.wordT, P.word_enc, by decide, by decide, by decide, by decide⟩)
    exact h1.snoc (x := (exm, 0)) rfl (.inl ⟨by decide, by decide⟩)
  · rintro ⟨_, ⟨p, hp, hno⟩ | h⟩
    · have hc : cps ([(⟨#[120, 110, 45, 45, 98, 99, 104, 101, 114, 45, 107, 118, 97]⟩ : ByteArray), ⟨#[101, 120, 97, 109, 112, 108, 101]⟩].map U.bn) = [[120, 110, 45, 45, 98, 99, 104, 101, 114, 45, 107, 118, 97], [101, 120, 97, 109, 112, 108, 101]] := by decide
      rw [hc] at hp
      apply hno
      simp at hp
      rcases hp with rfl | rfl
      · exact ⟨by decide, by decide⟩
      · exact ⟨by decide, by decide⟩
    · revert h; decide
theorem says3 : AscS (prc (Mp (U.dec (U.bn s3))) false) true ⟨#[]⟩ 4 := by
  rw [prc_s3]
  refine .inr ⟨[⟨#[97]⟩, ⟨#[]⟩, ⟨#[98]⟩], ?_, .inl ⟨rfl, ?_, rfl, rfl⟩⟩
  · have h1 : PartsR ([] ++ [([97], 0)]) ([] ++ [⟨#[97]⟩]) := PartsR.nil.snoc rfl (.inl ⟨by decide, by decide⟩)
    have h2 := h1.snoc (x := ([], 0)) (t := ⟨#[]⟩) rfl (.inl ⟨by decide, by decide⟩)
    exact h2.snoc (x := ([98], 0)) rfl (.inl ⟨by decide, by decide⟩)
  · refine .inl ⟨[], ?_, fun h => h.1 rfl⟩
    have hc : cps ([(⟨#[97]⟩ : ByteArray), ⟨#[]⟩, ⟨#[98]⟩].map U.bn) = [[97], [], [98]] := by decide
    rw [hc]
    simp
theorem uni4 : U.bn t4 = U.encs (join ((prc (Mp (U.dec (U.bn s4))) false).map (·.1))) := by
  rw [prc_s4]; decide
theorem noF4 : noF (prc (Mp (U.dec (U.bn s4))) false) = true := by rw [prc_s4]; rfl
set_option maxRecDepth 100000 in
set_option maxHeartbeats 4000000 in
theorem works_any (w : World) : Calls Tryz.prog 8 #[] w fun e W' => e = .returned (.bool true) ∧ Below w.heap.size w W' := by
  have H1 := hid (fun W => ascii_is s1 false true W (by decide) says1)
  have H2 := hid (fun W => ascii_is s2 false false W (by decide) (.inl ⟨bad_s2, rfl, rfl⟩))
  have H3 := hid (fun W => ascii_is s3 false true W (by decide) says3)
  have H4 := hid (fun W => unicode_is s4 false W (by decide) uni4)
  rw [noF4] at H4
  unfold s1 t1 at H1
  unfold s2 at H2
  unfold s3 at H3
  unfold s4 t4 at H4
  go_enter Tryz.func8, Tryz.ntmps8
  go_wp2_with fail
  refine (H1.out _).mono ?_
  rintro e w1 ⟨rfl, B1⟩
  have HB1 := hid B1
  clear B1
  go_wp2_with fail
  refine (H2.out _).mono ?_
  rintro e w2 ⟨rfl, B2⟩
  have HB2 := hid (HB1.out.trans (B2.mono HB1.out.size))
  clear B2
  go_wp2_with fail
  refine (H3.out _).mono ?_
  rintro e w3 ⟨rfl, B3⟩
  have HB3 := hid (HB2.out.trans (B3.mono HB2.out.size))
  clear B3
  go_wp2_with fail
  refine (H4.out _).mono ?_
  rintro e w4 ⟨rfl, B4⟩
  have HB4 := hid (HB3.out.trans (B4.mono HB3.out.size))
  clear B4
  go_wp2
  go_ret
  exact ⟨rfl, HB4.out⟩
end Go.Proofs.YtdncaehajhmcoaaGreat.I
/- IdnaRests: the walk. -/
namespace Go.Proofs.YtdncaehajhmcoaaGreat.I
open Go.RowKit
set_option linter.unusedVariables false

theorem parts_noF {xs : List (List Int × Int)} {ts : List ByteArray} (h : PartsR xs ts) : noF xs = true := by
  unfold noF
  rw [List.all_eq_true]
  intro x hx
  obtain ⟨i, hi, rfl⟩ := List.mem_iff_getElem.1 hx
  have h1 := (h.2 i hi).1
  rw [List.getElem?_eq_getElem hi] at h1
  exact decide_eq_true h1
/-- How a label is written. -/
theorem ex_prt : ∃ f : List Int → List Int, ∀ l p, Part l p → f l = p := by
  classical
  refine ⟨fun l => if h : ∃ p, Part l p then h.choose else [], fun l p h => ?_⟩
  have hex : ∃ p, Part l p := ⟨p, h⟩
  show (if h : ∃ p, Part l p then h.choose else []) = p
  rw [dif_pos hex]
  exact part_one_way hex.choose_spec h
theorem parts_prt {prt : List Int → List Int} (prt_is : ∀ l p, Part l p → prt l = p) {xs : List (List Int × Int)} {ts : List ByteArray} (h : PartsR xs ts) : (xs.map (·.1)).map prt = ts.map U.bn ∧ ∀ l ∈ xs.map (·.1), Part l (prt l) := by
  have key : ∀ i (hi : i < xs.length), Part xs[i].1 (U.bn (ts[i]'(by rw [h.1]; exact hi))) := fun i hi => by
    have h1 := (h.2 i hi).2
    rw [List.getElem?_eq_getElem hi, List.getElem?_eq_getElem (show i < ts.length by rw [h.1]; exact hi)] at h1
    exact h1
  constructor
  · apply List.ext_getElem
    · simp [h.1]
    · intro i h1 h2
      simp only [List.length_map] at h1 h2
      simp only [List.getElem_map]
      exact prt_is _ _ (key i h1)
  · intro l hl
    obtain ⟨x, hx, rfl⟩ := List.mem_map.1 hl
    obtain ⟨i, hi, rfl⟩ := List.mem_iff_getElem.1 hx
    rw [prt_is _ _ (key i hi)]
    exact key i hi
/-- What was made ASCII, and what it is as Unicode, has the same labels. -/
theorem rests_plain {l : List Int} {hy : Bool} {ts : List ByteArray} (hB : U.Bytes l) (h : PartsR (prc (Mp (U.dec l)) hy) ts) :
    prc (Mp (U.dec (join (ts.map U.bn)))) hy = prc (Mp (U.dec l)) hy ∧ prc (Mp (U.dec (U.encs (join ((prc (Mp (U.dec l)) hy).map (·.1)))))) hy = prc (Mp (U.dec l)) hy := by
  obtain ⟨hok, hxs⟩ := prc_ok (parts_noF h)
  obtain ⟨prt, hprt⟩ := ex_prt
  obtain ⟨e1, hp⟩ := parts_prt hprt h
  have hsc := prc_scal hy (Mp_scal _ (dec_scs l hB))
  have hch : ∀ c ∈ join (ts.map U.bn), 0 ≤ c ∧ c < 128 := by
    rw [← e1]
    refine join_all (p := fun c => 0 ≤ c ∧ c < 128) ⟨by omega, by omega⟩ _ (fun a ha => ?_)
    obtain ⟨y, hy', rfl⟩ := List.mem_map.1 ha
    intro c hc
    exact ((part_one (hok.flt y hy') (hp y hy')).2.2 c hc).1
  constructor
  · have hd : U.dec (join (ts.map U.bn)) = join (ts.map U.bn) := P.dec_asc _ (fun c hc => by have := hch c hc; omega) (by
      unfold P.asc
      rw [List.all_eq_true]
      intro c hc
      exact decide_eq_true (hch c hc).2)
    rw [hd, ← e1, rest_a hok prt hp]
    exact hxs.symm
  · have hd : U.dec (U.encs (join ((prc (Mp (U.dec l)) hy).map (·.1)))) = join ((prc (Mp (U.dec l)) hy).map (·.1)) := (U.back _ (by
      rw [List.all_eq_true]
      refine join_all (p := fun c => U.scal c = true) (by decide) _ (fun a ha => ?_)
      obtain ⟨x, hx, rfl⟩ := List.mem_map.1 ha
      exact hsc x hx)).1
    rw [hd, rest_u hok]
    exact hxs.symm
theorem asc_empty {xs : List (List Int × Int)} {long : Bool} {t : ByteArray} {r : Int} (h : AscS xs long t r) (hr : r ≠ 0) : t = ⟨#[]⟩ := by
  rcases h with ⟨_, rfl, _⟩ | ⟨ts, _, ⟨_, _, rfl, _⟩ | ⟨_, _, rfl⟩⟩
  · rfl
  · rfl
  · exact absurd rfl hr
theorem rests_all {s a u : ByteArray} {hy long : Bool} (h : AscS (prc (Mp (U.dec (U.bn s))) hy) long a 0) :
    noF (prc (Mp (U.dec (U.bn s))) hy) = true ∧ AscS (prc (Mp (U.dec (U.bn a))) hy) long a 0 ∧ (U.bn u = U.encs (join ((prc (Mp (U.dec (U.bn s))) hy).map (·.1))) → u.size ≤ 4 * s.size ∧ AscS (prc (Mp (U.dec (U.bn u))) hy) long a 0) := by
  rcases h with ⟨_, _, h⟩ | ⟨ts, hp, ⟨_, _, _, h⟩ | ⟨hnb, hj, _⟩⟩
  · cases h
  · cases h
  · have hr := rests_plain (U.bn_bytes s) hp
    refine ⟨parts_noF hp, ?_, fun hu => ⟨?_, ?_⟩⟩
    · rw [hj, hr.1]
      exact .inr ⟨ts, hp, .inr ⟨hnb, hj, rfl⟩⟩
    · have := uni_nu (U.bn_bytes s) (parts_noF hp)
      rw [← hu, U.bn_length, U.bn_length] at this
      exact this
    · rw [hu, hr.2]
      exact .inr ⟨ts, hp, .inr ⟨hnb, hj, rfl⟩⟩
theorem self_eq (t : ByteArray) : (t.toList == t.toList) = true := by rw [U.str_eq_bn]; exact decide_eq_true rfl
set_option maxRecDepth 100000 in
set_option maxHeartbeats 8000000 in
theorem rests_walk (s : ByteArray) (hy long : Bool) (w : World) (hs : s.size ≤ maxLen) :
    Calls Tryz.prog 4 #[.string s, .bool hy, .bool long] w fun e W' => e = .returned (.bool true) ∧ Below w.heap.size w W' := by
  unfold maxLen at hs
  by_cases h6 : 600 < s.size
  · go_enter Tryz.func4, Tryz.ntmps4
    go_wp2_with (go_at_call 8; refine (works_any _).mono ?_; rintro e w1 ⟨rfl, B1⟩)
    go_ret
    exact ⟨rfl, B1⟩
  · have h6z : (s.size : Int) ≤ 600 := by omega
    have H1 := hid (fun W => ascii_says s hy long W (by omega))
    have HR := hid (fun (a u : ByteArray) => rests_all (s := s) (a := a) (u := u) (hy := hy) (long := long))
    have HEM := hid (fun (t : ByteArray) (r : Int) => asc_empty (xs := prc (Mp (U.dec (U.bn s))) hy) (long := long) (t := t) (r := r))
    have H2 := hid (fun W => unicode_any s hy W (by omega))
    obtain ⟨xs, hxs⟩ : ∃ xs, prc (Mp (U.dec (U.bn s))) hy = xs := ⟨_, rfl⟩
    rw [hxs] at H1 HR HEM H2
    clear hxs
    go_enter Tryz.func4, Tryz.ntmps4
    go_wp2_with fail
    refine (H1.out _).mono ?_
    rintro e w1 ⟨⟨a, r, rfl, hA⟩, B1⟩
    have HA := hid hA
    have HB1 := hid B1
    clear hA B1
    by_cases hr : r = 0
    · subst hr
      by_cases ha : 4096 < a.size
      · go_wp2_with (go_at_call 8; refine (works_any _).mono ?_; rintro e w2 ⟨rfl, B2⟩)
        go_ret
        exact ⟨rfl, HB1.out.trans (B2.mono HB1.out.size)⟩
      · have haz : (a.size : Int) ≤ 4096 := by omega
        have H3 := hid (fun W => ascii_is a hy long W (by omega) (HR.out a a HA.out).2.1)
        have hnf := (HR.out a a HA.out).1
        rw [hnf] at H2
        have hse := self_eq a
        have HW := hid works_any
        go_wp2_with fail
        refine (H3.out _).mono ?_
        rintro e w2 ⟨rfl, B2⟩
        have HB2 := hid (HB1.out.trans (B2.mono HB1.out.size))
        clear B2
        go_wp2_with fail
        refine (H2.out _).mono ?_
        rintro e w3 ⟨⟨u, rfl, hu⟩, B3⟩
        have HB3 := hid (HB2.out.trans (B3.mono HB2.out.size))
        have hu2 := (HR.out a u HA.out).2.2 hu
        have H4 := hid (fun W => ascii_is u hy long W (by omega) hu2.2)
        clear B3 hu hu2
        go_wp2_with fail
        refine (H4.out _).mono ?_
        rintro e w4 ⟨rfl, B4⟩
        have HB4 := hid (HB3.out.trans (B4.mono HB3.out.size))
        clear B4
        go_wp2_with (go_at_call 8; refine (HW.out _).mono ?_; rintro e w5 ⟨rfl, B5⟩)
        go_ret
        exact ⟨rfl, HB4.out.trans (B5.mono HB4.out.size)⟩
    · have hrb : (r != 0) = true := by simpa using hr
      have hrc : (r == 0) = false := by simpa using hr
      obtain rfl := HEM.out a r HA.out hr
      go_wp2_with (go_at_call 8; refine (works_any _).mono ?_; rintro e w2 ⟨rfl, B2⟩)
      go_ret
      exact ⟨rfl, HB1.out.trans (B2.mono HB1.out.size)⟩
end Go.Proofs.YtdncaehajhmcoaaGreat.I
namespace Go.Proofs.YtdncaehajhmcoaaGreat
open Go.ChangeShapes Go.WideShapes Go.ChangeAt Go.RowKit
open Go.ChangeMaps (open_string shut_string)
set_option linter.unusedVariables false

theorem idnaRests_own : ownKnob Tryz.prog.godebug = none := by kernel_rfl
theorem idnaRests_laidOut : laidOutB Tryz.prog = true := by kernel_rfl

set_option maxRecDepth 100000 in
theorem idnaRests_lifted (os : Os) (started : os.Started) (H : Type) (enc : TypeId × Value → H) :
    ReturnsInHanded {} Tryz.checked os 4 .any (Rows.idnaRestsSpec.pre6 enc Tryz.prog Tryz.f4 Rows.idnaRestsRow.domain false) (Rows.idnaRestsSpec.post enc Tryz.prog Tryz.f4 false true false false) := by
  refine returnsInHanded_of_change (C := Tryz.checked) idnaRests_own started (by kernel_rfl) Tryz.func4
    (ChangeSpec.witness6 (enc := enc) (C := Tryz.checked) false ⟨#[], #[.string ByteArray.empty, .bool false, .bool false], []⟩ 8 (by kernel_rfl) (by kernel_rfl) (by kernel_rfl) (by kernel_rfl)) ?_
  intro W base args ds gs before hval0 hW hcnd _
  have hval : ∀ (j : Nat) t v, Tryz.f4.params[j]? = some t → args[j]? = some v → Value.okWide Tryz.prog W .any base t v := hval0
  have hW' := hW
  obtain ⟨p, q, hA0, hV, rfl, hfz, hnd⟩ := hW
  have hA : DataW.TrodAll enc Tryz.prog W 0 (fun _ => true) true Tryz.f4.params.toList args.toList ds p := hA0
  rw [Tryz.params4] at hA hval
  obtain ⟨v0, vs0, d0, ds0, p0, q0, hargs, rfl, rfl, h0, r0⟩ := trodAll_cons hA
  obtain ⟨v1, vs1, d1, ds1, p1, q1, rfl, rfl, rfl, h1, r1⟩ := trodAll_cons r0
  obtain ⟨v2, vs2, d2, ds2, p2, q2, rfl, rfl, rfl, h2, r2⟩ := trodAll_cons r1
  obtain ⟨rfl, rfl, rfl⟩ := trodAll_nil r2
  obtain rfl : args = #[v0, v1, v2] := by cases args; simp_all
  obtain ⟨rfl, rfl⟩ := trodVars_none hV
  obtain ⟨a0, rfl, rfl, rfl, w0⟩ := open_string Tryz.underlying9 (hval 0 9 v0 rfl rfl) h0
  obtain ⟨a1, rfl, rfl, rfl⟩ := open_bool Tryz.underlying4 (hval 1 4 v1 rfl rfl) h1
  obtain ⟨a2, rfl, rfl, rfl⟩ := open_bool Tryz.underlying4 (hval 2 4 v2 rfl rfl) h2
  clear hA0 hval0
  refine (I.rests_walk a0 a1 a2 W w0).mono fun e W' ⟨he, bel⟩ => ?_
  subst he
  exact ⟨_, rfl, _, _, _, [], _, [], hW', trodAll_mk1 (shut_bool Tryz.underlying4 _), (trodAll_cons_mk (shut_string Tryz.underlying9 w0) (trodAll_cons_mk (shut_bool Tryz.underlying4 _) (trodAll_cons_mk (shut_bool Tryz.underlying4 _) trodAll_mk0))), rfl, bel.frame _, fun h => by cases h⟩

theorem idnaRests_over : Rows.idnaRestsRow.holds Tryz.pinned (OpenSpec.ofChange Rows.idnaRestsSpec) :=
  OpenClaim.holds_of_wide 4 Tryz.f4 rfl rfl rfl rfl rfl rfl rfl ⟨rfl, rfl, rfl, rfl, rfl⟩ rfl rfl rfl rfl rfl (by kernel_rfl) Tryz.func4 (by kernel_rfl)
    (of_decide_eq_true (by kernel_rfl)) (by unfold Func.isWrapper; first | (rw [if_pos (by decide +kernel)]; kernel_rfl) | (rw [if_neg (by decide +kernel)]; exact ⟨rfl, rfl⟩))
    (fun os started H enc _ => idnaRests_lifted os started H enc)

/-- The statement. -/
theorem idnaRests_holds : Rows.IdnaRestsSaid := idnaRests_over
#print axioms idnaRests_holds
end Go.Proofs.YtdncaehajhmcoaaGreat
