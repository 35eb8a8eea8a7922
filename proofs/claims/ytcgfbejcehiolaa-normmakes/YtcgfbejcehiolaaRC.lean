/- The document's own way of taking apart. -/
import Derived.Test.YtcgfbejcehiolaaRB
namespace Go.Proofs.Ytcgfbejcehiolaa
open Go.RowKit
set_option linter.unusedVariables false

theorem Gives.late {L : List Int} {w w1 W : World} {e : Ending} (h1 : Below w.heap.size w w1) (h : Gives L w1 e W) : Gives L w e W := by
  obtain ⟨v, e, hr, hb⟩ := h
  exact ⟨v, e, own_base hr h1.size, h1.trans (hb.mono h1.size)⟩
theorem u_cells {w : World} {v : Value} {L : List Int} (h : U.IntsAt w v L) : ∃ a c, v = .slice a L.length c ∧ (0 < L.length → ∃ b off, a = some ⟨b, off, none⟩ ∧ ∀ j, j < L.length → w.cell? ⟨b, off + j, none⟩ = some (.int .i32 (L[j]?.getD 0))) := by
  rcases h with ⟨rfl, x, c, rfl⟩ | ⟨hp, b, off, c, rfl, h⟩
  · exact ⟨x, c, rfl, fun h => by simp at h⟩
  · exact ⟨_, c, rfl, fun _ => ⟨b, off, rfl, h⟩⟩

set_option maxRecDepth 100000 in
set_option maxHeartbeats 4000000 in
theorem rnfd_any (v : Value) (L : List Int) (w : World) (hlen : L.length ≤ 10000) (hv : U.IntsAt w v L) : Calls Try.prog 14 #[v] w fun e W' => Gives (nfdI L) w e W' := by
  obtain ⟨a, cap, rfl, hc1⟩ := u_cells hv
  have HE0 : Hid (nfdI L = ordI (L.flatMap fd)) := rfl
  obtain ⟨n, hn⟩ : ∃ n, L.length = n := ⟨_, rfl⟩
  rw [hn] at hc1 hlen ⊢
  have HC := hid hc1
  have HN := hid hn
  clear hc1 hn hv
  go_enter Try.func14, Try.ntmps14
  go_wp2_with fail
  go_loopw [3, 4] (fun v4 i wr => ∃ k p : Nat, k ≤ n ∧ i = .int .i64 k ∧ p ≤ k * 3 ∧ Hid (p = ((L.take k).flatMap fd).length) ∧ Hid (wr.ownsRow w.heap.size 21 1 v4 p (((L.take k).flatMap fd).map (Value.int .i32))) ∧ Hid (Below w.heap.size w wr)) (fun _ i _ => n - (intOf i).toNat)
  case atStart => exact ⟨0, 0, Nat.zero_le _, rfl, Nat.le_refl _, rfl, World.ownsRow_nil _ _ _ _, Below.refl _ _⟩
  case round =>
    obtain ⟨k, p, hk, rfl, hp, HP, HR, HB⟩ := hrel
    by_cases hlt : k < n
    · have hltz : (k : Int) < (n : Int) := by omega
      have hkl : k < L.length := by have := HN.out; omega
      obtain ⟨b1, o1, rfl, hc⟩ := HC.out (by omega)
      have hck := hc k hlt
      have d1 : wr.cell? ⟨b1, o1 + k, none⟩ = some (.int .i32 (L[k]?.getD 0)) := (HB.out.cell (p := ⟨b1, o1 + k, none⟩) (lt_of_cell hck)).trans hck
      have hpre := fd_pre L k hkl
      have hfl := fd_len (L[k]?.getD 0)
      obtain ⟨c, hce⟩ : ∃ c, L[k]?.getD 0 = c := ⟨_, rfl⟩
      rw [hce] at d1 hpre hfl
      have HE := hid hpre
      have hfl1 := hfl.2
      clear hc hck hpre hce hkl hfl
      go_wp2_with fail
      refine (rapart_any _ _).mono ?_
      rintro e W2 ⟨v2, rfl, r2, B2⟩
      obtain ⟨a2, c2, rfl⟩ := own_sh r2
      replace HR := hid (ownsRow_below HR.out B2 (Nat.le_refl _))
      replace HB := hid (HB.out.trans (B2.mono HB.out.size))
      have R2 := hid r2
      clear r2 B2 d1
      go_wp2_with ((at_builtin; refine U.wpList_append_ints rfl _ _ rfl _ _ _ ((L.take k).flatMap fd) rfl HR.out _ (fd c) rfl (U.SrcInts.own rfl R2.out) (by omega) HB.out.size ?_; intro v3 W3 r3 g3))
      go_roundw
      case rel =>
        refine ⟨k + 1, p + (fd c).length, by omega, by go_num, by omega, ?_, ?_, below_own HB.out HR.out g3⟩
        · show _ = _; rw [HE.out, List.length_append, HP.out]
        · show World.ownsRow _ _ _ _ _ _ _; rw [HE.out]; exact r3
      case measure => simp [intOf]; omega
    · have hltz : ¬ (k : Int) < (n : Int) := by omega
      have hkn : k = n := by omega
      have ht : L.take k = L := List.take_of_length_le (by rw [HN.out]; omega)
      rw [ht] at HP HR
      have hpl := HP.out
      clear ht
      go_wp2_with fail
      refine (rorder_any _ (L.flatMap fd) _ (by omega) (U.SrcInts.own hpl HR.out)).mono ?_
      rintro e W2 h2
      obtain ⟨v2, rfl, r2, B2⟩ := h2
      have HG : Hid (Gives (ordI (L.flatMap fd)) w (.returned v2) W2) := Gives.late HB.out ⟨v2, rfl, r2, B2⟩
      clear r2 B2
      go_wp2
      go_ret
      rw [HE0.out]; exact HG.out
end Go.Proofs.Ytcgfbejcehiolaa
