/- The contracts of the statements' own helpers: runes (two like lists), works. -/
import Derived.Test.YtfjfhfolikgajaaE
import Derived.Test.YtfjfhfolikgajaaV
import Derived.Deep.QuietTactic
import Derived.BigQuiet
namespace Go.Proofs.Ytfjfhfolikgajaa
open Go.RowKit

theorem bn_inj {s t : ByteArray} (h : bn s = bn t) : s = t := by
  unfold bn at h
  have h2 : s.data.toList = t.data.toList := by
    have : ∀ (a b : List UInt8), a.map (fun c => (c.toNat : Int)) = b.map (fun c => (c.toNat : Int)) → a = b := by
      intro a
      induction a with
      | nil => intro b hb; cases b with
        | nil => rfl
        | cons _ _ => simp at hb
      | cons x a ih => intro b hb; cases b with
        | nil => simp at hb
        | cons y b =>
          simp only [List.map_cons, List.cons.injEq] at hb
          have hxy : x = y := UInt8.toNat_inj.1 (by have := hb.1; omega)
          rw [ih b hb.2, hxy]
    exact this _ _ h
  cases s; cases t
  congr 1
  exact Array.toList_inj.1 h2
theorem drewN_drewN (w : World) (a b : Nat) : (w.drewN a).drewN b = w.drewN (a + b) := by simp [World.drewN, Nat.add_assoc]
theorem below_drewN (B : Nat) (w : World) (n : Nat) : Below B w (w.drewN n) := ⟨rfl, rfl, rfl, Nat.le_refl _, fun _ _ => rfl⟩

set_option maxRecDepth 100000 in
set_option maxHeartbeats 1000000 in
theorem runes_some (b off cap b' off' cap' : Nat) (zs : List Int) (hlen : zs.length ≤ 17179869184) (w : World)
    (hc : ∀ j, j < zs.length → w.cell? ⟨b, off + j, none⟩ = some (.int .i32 (zs[j]?.getD 0))) (hd : ∀ j, j < zs.length → w.cell? ⟨b', off' + j, none⟩ = some (.int .i32 (zs[j]?.getD 0))) :
    Calls Try.prog 13 #[.slice (some ⟨b, off, none⟩) zs.length cap, .slice (some ⟨b', off', none⟩) zs.length cap'] w fun e W' => e = .returned (.bool true) ∧ ∃ n, W' = w.drewN n := by
  go_enter Try.func13, Try.ntmps13
  go_wp2_with fail
  go_loopw [5] (fun i wr => ∃ k n : Nat, k ≤ zs.length ∧ i = .int .i64 k ∧ wr = w.drewN n) (fun i _ => zs.length - (intOf i).toNat)
  case atStart => exact ⟨0, 0, Nat.zero_le _, rfl, rfl⟩
  case round =>
    obtain ⟨k, n, hk, rfl, rfl⟩ := hrel
    by_cases hlt : k < zs.length
    · have c1 : (w.drewN n).cell? ⟨b, off + k, none⟩ = some (.int .i32 (zs[k]?.getD 0)) := hc k hlt
      have c2 : (w.drewN n).cell? ⟨b', off' + k, none⟩ = some (.int .i32 (zs[k]?.getD 0)) := hd k hlt
      generalize zs[k]?.getD 0 = c at c1 c2
      go_wp2_with fail
      go_quiet (fail)
      go_wp2
      go_roundw
      case rel => exact ⟨k + 1, n + nq, by omega, by go_num, rfl⟩
      case measure => simp [intOf]; omega
    · go_wp2
      go_ret
      exact ⟨rfl, n, rfl⟩

set_option maxRecDepth 100000 in
set_option maxHeartbeats 1000000 in
theorem runes_none (a a' : Option Addr) (cap cap' : Nat) (w : World) :
    Calls Try.prog 13 #[.slice a 0 cap, .slice a' 0 cap'] w fun e W' => e = .returned (.bool true) ∧ ∃ n, W' = w.drewN n := by
  go_enter Try.func13, Try.ntmps13
  go_wp2_with fail
  refine wp_loop_rounds 1 ?_
  rw [rounds_succ]
  go_wp2
  go_ret
  exact ⟨rfl, 0, rfl⟩

/-- runes answers true where both lead to the same numbers. -/
theorem runes_same (v v' : Value) (zs : List Int) (hlen : zs.length ≤ 17179869184) (w : World) (hv : IntsAt w v zs) (hv' : IntsAt w v' zs) :
    Calls Try.prog 13 #[v, v'] w fun e W' => e = .returned (.bool true) ∧ ∃ n, W' = w.drewN n := by
  rcases hv with ⟨rfl, a, cap, rfl⟩ | ⟨hp, b, off, cap, rfl, hc⟩
  · rcases hv' with ⟨_, a', cap', rfl⟩ | ⟨hp', _⟩
    · exact runes_none a a' cap cap' w
    · simp at hp'
  · rcases hv' with ⟨h0, _⟩ | ⟨_, b', off', cap', rfl, hc'⟩
    · subst h0; simp at hp
    · exact runes_some b off cap b' off' cap' zs hlen w hc hc'

theorem ints_new (W : World) (zs : List Int) (hp : 0 < zs.length) (cap : Nat) : IntsAt (W.alloc (.cells (zs.map (Value.int .i32)).toArray 21)) (.slice (some ⟨W.heap.size, 0, none⟩) zs.length cap) zs := by
  refine .inr ⟨hp, W.heap.size, 0, cap, rfl, fun j hj => ?_⟩
  have := news_at W 21 (zs.map (Value.int .i32)) j (.int .i32 (zs[j]?.getD 0)) (by rw [List.getElem?_map, List.getElem?_eq_getElem hj]; rfl)
  rw [addr_add0] at this
  rw [Nat.zero_add]; exact this

set_option maxRecDepth 100000 in
set_option maxHeartbeats 1000000 in
/-- works answers true. -/
theorem works_any (w : World) : Calls Try.prog 8 #[] w fun e W' => e = .returned (.bool true) ∧ Below w.heap.size w W' := by
  have e1 : nx (bn ⟨#[226, 130, 65]⟩) = (65533, 2, false) := by decide
  have e2 : dec (bn ⟨#[226, 130, 65, 255]⟩) = [65533, 65, 65533] := by decide
  have e3 : val (bn ⟨#[237, 160, 128]⟩) = false := by decide
  have e4 : ([65, 128512] : List Int).all scal = true := by decide
  have e5 : encs [65, 128512] = bn ⟨#[65, 240, 159, 152, 128]⟩ := by decide
  have E1 : Hid (nx (bn ⟨#[226, 130, 65]⟩) = (65533, 2, false)) := e1
  have E2 : Hid (dec (bn ⟨#[226, 130, 65, 255]⟩) = [65533, 65, 65533]) := e2
  have E3 : Hid (val (bn ⟨#[237, 160, 128]⟩) = false) := e3
  clear e1 e2 e3
  go_enter Try.func8, Try.ntmps8
  go_wp2_with fail
  refine (next_any _ _ (by decide)).mono ?_
  rw [E1.out]
  rintro e w' ⟨rfl, n, rfl⟩
  go_wp2_with fail
  refine (encode_any _ [65, 128512] (by decide) _ (ints_new (w.drewN n) [65, 128512] (by decide) 2)).mono ?_
  rintro e w2 ⟨⟨t, r, rfl, hR⟩, hB⟩
  rcases hR with ⟨_, rfl, ht⟩ | ⟨h, _⟩
  · obtain rfl := bn_inj (ht.trans e5)
    clear ht e4 e5
    go_wp2_with fail
    refine (decode_any _ (by decide) _).mono ?_
    rw [E2.out]
    rintro e w3 ⟨v, rfl, hrow, hB3⟩
    obtain ⟨g, cap, rfl⟩ := ownsRow_succ hrow
    have hc1 : w3.cell? ⟨g, 1, none⟩ = some (.int .i32 65) := (hrow.cellAt 1 (by decide)).trans rfl
    go_wp2_with fail
    refine (valid_any _ (by decide) _).mono ?_
    rw [E3.out]
    rintro e w4 ⟨rfl, hB4⟩
    go_wp2
    go_ret
    refine ⟨rfl, ?_⟩
    have b1 : Below w.heap.size w ((w.drewN n).alloc (.cells #[.int .i32 65, .int .i32 128512] 21)) := (below_drewN w.heap.size w n).alloc (show w.heap.size ≤ (w.drewN n).heap.size from Nat.le_refl _) _
    have b2 := b1.trans (hB.mono b1.size)
    have b3 := b2.trans (hB3.mono b2.size)
    exact b3.trans (hB4.mono b3.size)
  · rw [e4] at h; cases h
end Go.Proofs.Ytfjfhfolikgajaa
