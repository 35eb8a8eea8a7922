/- Plain: when one of the numbers is too great for its place. (Stage 10.) -/
import Derived.Test.YtklplalfcpigcaaDoorFQ
namespace Go.Proofs.YtklplalfcpigcaaDoor.F
set_option linter.unusedVariables false

def grt (t : Nat) : List Nat → Bool
  | [] => false
  | [x] => decide (256 ^ (5 - t) ≤ x)
  | x :: y :: r => decide (255 < x) || grt t (y :: r)
def tens (ns : List Nat) : List (Nat × Nat) := ns.map fun n => (2, n)
theorem pow_le {t : Nat} (h : 1 ≤ t) : 256 ^ (5 - t) ≤ 4294967296 := Nat.le_trans (Nat.pow_le_pow_right (by decide) (by omega : 5 - t ≤ 4)) (by decide)
theorem lg_tens {t : Nat} (h : 1 ≤ t) : ∀ ns : List Nat, lg t (vals (tens ns)) = grt t ns
  | [] => rfl
  | [x] => by
    have := pow_le h
    show (decide ((if 4294967296 ≤ x then ((0 : Nat), (4 : Int)) else (x, 0)).2 = 4) || decide (256 ^ (5 - t) ≤ (if 4294967296 ≤ x then ((0 : Nat), (4 : Int)) else (x, 0)).1)) = decide (256 ^ (5 - t) ≤ x)
    split
    · have h2 : 256 ^ (5 - t) ≤ x := by omega
      rw [decide_eq_true h2]; simp
    · simp
  | x :: y :: r => by
    have ih := lg_tens h (y :: r)
    have e : lg t (vals (tens (x :: y :: r))) = (decide ((if 4294967296 ≤ x then ((0 : Nat), (4 : Int)) else (x, 0)).2 = 4) || decide (255 < (if 4294967296 ≤ x then ((0 : Nat), (4 : Int)) else (x, 0)).1) || lg t (vals (tens (y :: r)))) := rfl
    rw [e, ih, grt]
    congr 1
    split
    · have h2 : 255 < x := by omega
      rw [decide_eq_true h2]; simp
    · simp
def smN : Nat → List Nat → Nat
  | _, [] => 0
  | _, [x] => x
  | i, x :: y :: r => x * 256 ^ (3 - i) + smN (i + 1) (y :: r)
theorem sm_tens {t : Nat} (h : 1 ≤ t) : ∀ (ns : List Nat) (i : Nat), grt t ns = false → sm i (vals (tens ns)) = smN i ns
  | [], i, _ => rfl
  | [x], i, hg => by
    have := pow_le h
    have hx : ¬ 256 ^ (5 - t) ≤ x := of_decide_eq_false hg
    show (if 4294967296 ≤ x then ((0 : Nat), (4 : Int)) else (x, 0)).1 = x
    rw [if_neg (by omega)]
  | x :: y :: r, i, hg => by
    rw [grt, Bool.or_eq_false_iff] at hg
    have hx : ¬ 255 < x := of_decide_eq_false hg.1
    have ih := sm_tens h (y :: r) (i + 1) hg.2
    have e : sm i (vals (tens (x :: y :: r))) = (if 4294967296 ≤ x then ((0 : Nat), (4 : Int)) else (x, 0)).1 * 256 ^ (3 - i) + sm (i + 1) (vals (tens (y :: r))) := rfl
    rw [e, ih, if_neg (by omega)]; rfl
/-- Numbers in tens, with dots between: refused just if one is too great for its place. -/
theorem prs_tens {ns : List Nat} (h1 : 1 ≤ ns.length) (h4 : ns.length ≤ 4) (h : ∀ n ∈ ns, n < 2 ^ 64) : prs (join (wrts (tens ns))) = if grt ns.length ns = true then (0, 4) else (smN 0 ns, 0) := by
  have hl : (tens ns).length = ns.length := by simp [tens]
  have hne : tens ns ≠ [] := by intro e; rw [e] at hl; simp at hl; omega
  have hb : ∀ v ∈ tens ns, v.2 < 2 ^ 64 := fun v hv => by
    obtain ⟨n, hn, rfl⟩ := List.mem_map.1 hv
    exact h n hn
  rw [(prs_wrts hne (by omega) hb).1, hl, lg_tens h1]
  cases hg : grt ns.length ns with
  | true => rfl
  | false => simp only [Bool.false_eq_true, if_false]; rw [sm_tens h1 ns 0 hg]
end Go.Proofs.YtklplalfcpigcaaDoor.F
