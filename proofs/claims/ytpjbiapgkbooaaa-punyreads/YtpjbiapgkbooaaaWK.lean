/- The contract of works: one word, there and back. -/
import Derived.Test.YtpjbiapgkbooaaaPD
namespace Go.Proofs.Ytpjbiapgkbooaaa
open Go.RowKit U
set_option linter.unusedVariables false

def word : List Int := [98, 252, 99, 104, 101, 114]
def wordT : List Int := [98, 99, 104, 101, 114, 45, 107, 118, 97]
theorem word_enc : Enc word wordT := by
  refine ⟨[745], ?_, ?_⟩
  · have e1 : plain word = [98, 99, 104, 101, 114] := by decide
    have e2 : wn 72 36 745 = [107, 118, 97] := by
      rw [wn_more 72 36 745 (by decide), wn_more 72 (36 + 36) _ (by decide), wn_less 72 (36 + 36 + 36) _ (by decide)]
      decide
    rw [e1]
    show _ = hd [98, 99, 104, 101, 114] ++ ([] ++ wn 72 36 745)
    rw [e2]
    decide
  · decide
def t1 : ByteArray := ⟨#[98, 99, 104, 101, 114, 45, 107, 118, 97]⟩
def t2 : ByteArray := ⟨#[57, 57, 57, 57, 57, 57, 57, 57]⟩
theorem bn_t1 : bn t1 = wordT := by decide
theorem word_back : DecP (bn t1) = some word := by rw [bn_t1]; exact (dec_enc word_enc (by decide) (by decide)).1
theorem nines : DecP (bn t2) = none := by
  have e : bn t2 = [57, 57, 57, 57, 57, 57, 57, 57] := by decide
  have e1 : fore [57, 57, 57, 57, 57, 57, 57, 57] = [] := by decide
  have e2 : aft [57, 57, 57, 57, 57, 57, 57, 57] = [57, 57, 57, 57, 57, 57, 57, 57] := by decide
  unfold DecP
  rw [e, e1, e2]
  exact RD_none _ _ _ (by simp) (by decide)
theorem bn_inj {a b : ByteArray} (h : bn a = bn b) : a = b := by
  have h1 : a.data.toList = b.data.toList := by
    unfold bn at h
    have : Function.Injective fun c : UInt8 => (c.toNat : Int) := fun x y hxy => UInt8.toNat_inj.mp (by have h : (x.toNat : Int) = (y.toNat : Int) := hxy; omega)
    exact (List.map_inj_right (fun x y hxy => this hxy)).1 h
  cases a; cases b
  simp at h1
  rw [h1]

theorem ints_new (w : World) (l : List Int) (h : 0 < l.length) : IntsAt (w.alloc (.cells (l.map (Value.int .i32)).toArray 21)) (.slice (some ⟨w.heap.size, 0, none⟩) l.length l.length) l := by
  refine .inr ⟨h, _, _, _, rfl, fun j hj => ?_⟩
  have := news_at w 21 (l.map (Value.int .i32)) j (.int .i32 (l[j]?.getD 0)) (by rw [List.getElem?_map, List.getElem?_eq_getElem hj]; rfl)
  rw [addr_add0] at this
  rw [Nat.zero_add]; exact this
theorem EncR.ok {l : List Int} {t : ByteArray} {r : Int} {T : List Int} (h : EncR l t r) (hl : l.length ≤ 63) (hs : l.all scal = true) (hE : Enc l T) (hT : T.length ≤ 63) : bn t = T ∧ r = 0 := by
  rcases h with h | h | ⟨_, _, T', hE', h⟩
  · omega
  · rw [hs] at h; cases h.2.1
  · obtain rfl := hE'.one hE
    rcases h with h | ⟨_, h1, h2⟩
    · omega
    · exact ⟨h1, h2⟩
theorem DecR.ok {l : List Int} {w' : World} {base : Nat} {v : Value} {r : Int} {pts : List Int} (h : DecR l w' base v r) (hl : l.length ≤ 63) (ha : asc l = true) (hD : DecP l = some pts) : r = 0 ∧ w'.ownsRow base 21 1 v pts.length (pts.map (Value.int .i32)) := by
  rcases h with h | ⟨_, h, _⟩ | ⟨_, _, pts', h1, h2, h3⟩
  · omega
  · rcases h with h | h
    · rw [ha] at h; cases h
    · rw [hD] at h; cases h
  · rw [hD] at h1
    obtain rfl := Option.some.inj h1
    exact ⟨h2, h3⟩
theorem DecR.no {l : List Int} {w' : World} {base : Nat} {v : Value} {r : Int} (h : DecR l w' base v r) (hl : l.length ≤ 63) (hD : DecP l = none) : r = 8 ∧ v = .slice none 0 0 := by
  rcases h with h | ⟨_, _, h1, h2⟩ | ⟨_, _, pts', h1, h2, h3⟩
  · omega
  · exact ⟨h2, h1⟩
  · rw [hD] at h1; cases h1

set_option maxRecDepth 100000 in
set_option maxHeartbeats 4000000 in
theorem works_any (w : World) : Calls Try.prog 8 #[] w fun e w' => e = .returned (.bool true) ∧ Below w.heap.size w w' := by
  have HI : Hid (IntsAt (w.alloc (.cells #[.int .i32 98, .int .i32 252, .int .i32 99, .int .i32 104, .int .i32 101, .int .i32 114] 21)) (.slice (some ⟨w.heap.size, 0, none⟩) 6 6) word) := ints_new w word (by decide)
  go_enter Try.func8, Try.ntmps8
  go_wp2_with fail
  refine (pencode_any _ word (by decide) _ HI.out).mono ?_
  rintro e w1 ⟨⟨s, r, rfl, hE⟩, B1⟩
  obtain ⟨hs, rfl⟩ := hE.ok (by decide) (by decide) word_enc (by decide)
  obtain rfl : s = t1 := bn_inj (hs.trans bn_t1.symm)
  have b1 : Below w.heap.size w w1 := ((Below.refl _ w).alloc (Nat.le_refl _) _).trans (B1.mono (by simp))
  clear hE hs B1
  go_wp2_with fail
  refine (show Calls Try.prog 13 #[.string t1] _ _ from pdecode_any t1 _).mono ?_
  rintro e w2 ⟨⟨v2, r2, rfl, hD⟩, B2⟩
  obtain ⟨rfl, R2⟩ := hD.ok (by decide) (by decide) word_back
  obtain ⟨a2, c2, rfl⟩ := own_sh21 R2
  have b2 := b1.trans (B2.mono b1.size)
  clear hD B2
  go_wp2_with fail
  refine (show Calls Try.prog 13 #[.string t2] _ _ from pdecode_any t2 _).mono ?_
  rintro e w3 ⟨⟨v3, r3, rfl, hD⟩, B3⟩
  obtain ⟨rfl, rfl⟩ := hD.no (by decide) nines
  have b3 := b2.trans (B3.mono b2.size)
  have R3 := ownsRow_below R2 B3 (Nat.le_refl _)
  clear hD B3 R2
  obtain ⟨g, cap, hgc⟩ : ∃ g cap, Value.slice a2 word.length c2 = .slice (some ⟨g, 0, none⟩) 6 cap := by
    rcases R3.2 with ⟨e, h0⟩ | ⟨g, cap, cur, e, _⟩
    · exact absurd h0 (by decide)
    · exact ⟨g, cap, e⟩
  rw [hgc] at R3 ⊢
  have hc : w3.cell? ⟨g, 1, none⟩ = some (.int .i32 252) := by
    have := R3.cellAt 1 (by decide)
    rw [this]; rfl
  clear hgc R3
  have hA := adapt_any 0 1 true (by omega) (by omega) (by omega) w3
  have e0 : adapt 0 1 true = 0 := by
    unfold adapt
    rw [loopA_less _ _ (by decide)]
    decide
  rw [e0] at hA
  have HA := hid hA
  clear hA e0
  have ht1 : t1 = ⟨#[98, 99, 104, 101, 114, 45, 107, 118, 97]⟩ := rfl
  rw [ht1]
  go_wp2_with (go_at_call 11; refine (show Calls Try.prog 11 #[.int .i64 0, .int .i64 1, .bool true] _ _ from HA.out).mono ?_; rintro e w' ⟨rfl, rfl⟩)
  go_ret
  exact ⟨rfl, b3⟩
end Go.Proofs.Ytpjbiapgkbooaaa
