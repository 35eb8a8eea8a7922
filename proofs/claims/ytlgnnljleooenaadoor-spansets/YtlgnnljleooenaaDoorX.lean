/- SpanSets, whatever came in; and what a slice of code points that came in leads to. -/
import Derived.Test.YtlgnnljleooenaaDoorU
import Derived.OpenShut
import Derived.ProofKit
namespace Go.Proofs.YtlgnnljleooenaaDoor
open Go.ChangeShapes Go.WideShapes Go.ChangeAt Go.RowKit
set_option linter.unusedVariables false

theorem open_runes {H : Type} {enc : TypeId × Value → H} {W : World} {base fuel : Nat} {spare : Nat → Bool} {held : Bool} {a : Option Addr} {len cap : Nat} {x : DataW H × List MemPlace}
    (h : DataW.trod enc Tryd.prog W base spare held fuel 41 [.slice a len cap] = some x) : ∃ l : List Int, l.length = len ∧ len ≤ maxLen ∧ IntsAt W (.slice a len cap) l := by
  rcases open_ints Tryd.underlying41 Tryd.underlying21 (by kernel_rfl) h with ⟨hcs, _⟩ | ⟨ad, l, c, zs, hcs, _, hl, hm, hz, _, hcell, _⟩
  · simp only [List.cons.injEq, Value.slice.injEq, and_true] at hcs
    obtain ⟨rfl, rfl, rfl⟩ := hcs
    exact ⟨[], rfl, Nat.zero_le _, none, 0, rfl, ⟨fun _ => rfl, Nat.le_refl _⟩, fun h => by simp at h⟩
  · simp only [List.cons.injEq, Value.slice.injEq, and_true] at hcs
    obtain ⟨rfl, rfl, rfl⟩ := hcs
    have hzl : len ≤ zs.length := by
      have hz' := hz
      (try split at hz') <;> omega
    have hlen : (zs.take len).length = len := by rw [List.length_take]; omega
    refine ⟨zs.take len, hlen, by omega, some ad, cap, by rw [hlen], ⟨(fun e => by cases e), by rw [hlen]; exact hl⟩, fun hp => ?_⟩
    rw [hlen] at hp ⊢
    obtain ⟨b, off, rfl, hc⟩ := ints_at hcell (by omega)
    refine ⟨b, off, rfl, fun j hj => ?_⟩
    rw [hc j (by omega)]
    congr 2
    rw [List.getElem?_take, if_pos hj]; simp

set_option maxRecDepth 100000 in
set_option maxHeartbeats 3200000 in
theorem sets_walk (va : Value) (a : List Sp) (vb : Value) (b : List Sp) (vl : Value) (l : List Int) (w : World) (hT : Tab w) (hva : SpansAt w va a) (hvb : SpansAt w vb b) (hvl : IntsAt w vl l) :
    Calls Tryd.prog 5 #[va, vb, vl] w fun e W' => e = .returned (.bool true) ∧ Below w.heap.size w W' := by
  obtain ⟨pa, ka, rfl⟩ : ∃ p k, va = .slice p a.length k := by obtain ⟨p, k, e, _⟩ := hva; exact ⟨p, k, e⟩
  obtain ⟨pb, kb, rfl⟩ : ∃ p k, vb = .slice p b.length k := by obtain ⟨p, k, e, _⟩ := hvb; exact ⟨p, k, e⟩
  obtain ⟨pl, kl, rfl⟩ : ∃ p k, vl = .slice p l.length k := by obtain ⟨p, k, e, _⟩ := hvl; exact ⟨p, k, e⟩
  by_cases c1 : 60 < a.length
  · have q1 : (60 : Int) < (a.length : Int) := by omega
    go_enter Tryd.func5, Tryd.ntmps5
    go_wp2_with fail
    refine (works_any w hT).mono ?_
    rintro e w1 ⟨rfl, h1⟩
    go_wp2
    go_ret
    exact ⟨rfl, h1⟩
  have q1 : ¬ (60 : Int) < (a.length : Int) := by omega
  by_cases c2 : 60 < b.length
  · have q2 : (60 : Int) < (b.length : Int) := by omega
    go_enter Tryd.func5, Tryd.ntmps5
    go_wp2_with fail
    refine (works_any w hT).mono ?_
    rintro e w1 ⟨rfl, h1⟩
    go_wp2
    go_ret
    exact ⟨rfl, h1⟩
  have q2 : ¬ (60 : Int) < (b.length : Int) := by omega
  by_cases c3 : 200 < l.length
  · have q3 : (200 : Int) < (l.length : Int) := by omega
    go_enter Tryd.func5, Tryd.ntmps5
    go_wp2_with fail
    refine (works_any w hT).mono ?_
    rintro e w1 ⟨rfl, h1⟩
    go_wp2
    go_ret
    exact ⟨rfl, h1⟩
  have q3 : ¬ (200 : Int) < (l.length : Int) := by omega
  by_cases hca : chk a ≠ 0
  · have HX := hid' hca
    go_enter Tryd.func5, Tryd.ntmps5
    go_wp2_with fail
    refine (check_any _ a (by omega) _ hva).mono ?_
    rintro e w1 ⟨rfl, h1⟩
    go_wp2_with fail
    refine (works_any w1 (hT.below h1 (Nat.le_refl _))).mono ?_
    rintro e w2 ⟨rfl, h2⟩
    go_wp2
    go_ret
    exact ⟨rfl, h1.trans (h2.mono h1.size)⟩
  have HCa : Hid (chk a = 0) := by show _ = _; omega
  clear hca
  by_cases hcb : chk b ≠ 0
  · have HX := hid' hcb
    go_enter Tryd.func5, Tryd.ntmps5
    go_wp2_with fail
    refine (check_any _ a (by omega) _ hva).mono ?_
    rw [HCa.out]
    rintro e w1 ⟨rfl, h1⟩
    go_wp2_with fail
    refine (check_any _ b (by omega) _ (hvb.below h1 (Nat.le_refl _))).mono ?_
    rintro e w2 ⟨rfl, h2⟩
    have hB2 := h1.trans (h2.mono h1.size)
    go_wp2_with fail
    refine (works_any w2 (hT.below hB2 (Nat.le_refl _))).mono ?_
    rintro e w3 ⟨rfl, h3⟩
    go_wp2
    go_ret
    exact ⟨rfl, hB2.trans (h3.mono hB2.size)⟩
  have HCb : Hid (chk b = 0) := by show _ = _; omega
  exact sets_main a b l pa ka pb kb pl kl w hT hva hvb hvl (by omega) (by omega) (by omega) HCa HCb
end Go.Proofs.YtlgnnljleooenaaDoor
