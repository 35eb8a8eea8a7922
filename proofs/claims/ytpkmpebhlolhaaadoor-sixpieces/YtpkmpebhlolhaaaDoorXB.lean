/- Plain: pieces and numbers as text are read as themselves. (Stage 11.) -/
import Derived.Test.YtpkmpebhlolhaaaDoorXA
namespace Go.Proofs.YtpkmpebhlolhaaaDoor.X
open Go.Proofs.YtpkmpebhlolhaaaDoor.F (hx hx_bd vl)
set_option linter.unusedVariables false

/-! ### A piece -/
def dgs (n : Nat) : List Nat := if n < 16 then [n] else if n < 256 then [n / 16, n % 16] else if n < 4096 then [n / 256, n / 16 % 16, n % 16] else [n / 4096, n / 256 % 16, n / 16 % 16, n % 16]
def pad (n : Nat) : List Nat := [n / 4096 % 16, n / 256 % 16, n / 16 % 16, n % 16]
def dgc (cap : Bool) (d : Nat) : Int := if d < 10 then 48 + d else if cap = true then 55 + d else 87 + d
/-- A piece as text: in capitals or small digits, with noughts ahead or without. -/
def hexT (cap nts : Bool) (n : Nat) : List Int := (if nts = true then pad n else dgs n).map (dgc cap)
theorem hx_dgc {cap : Bool} {d : Nat} (h : d < 16) : hx (dgc cap d) = d := by
  unfold hx dgc
  cases cap <;> (repeat' split) <;> first | omega | simp_all
theorem dgc_bd {cap : Bool} {d : Nat} (h : d < 16) : (48 ≤ dgc cap d ∧ dgc cap d ≤ 57) ∨ (65 ≤ dgc cap d ∧ dgc cap d ≤ 102) := by
  unfold dgc
  cases cap <;> (repeat' split) <;> first | omega | simp_all
theorem dgs_bd {n : Nat} (h : n < 65536) : ∀ d ∈ dgs n, d < 16 := by
  unfold dgs
  intro d hd
  (repeat' split at hd) <;> simp at hd <;> omega
theorem pad_bd (n : Nat) : ∀ d ∈ pad n, d < 16 := by
  unfold pad
  intro d hd
  simp at hd
  omega
theorem dgs_len (n : Nat) : 1 ≤ (dgs n).length ∧ (dgs n).length ≤ 4 := by unfold dgs; (repeat' split) <;> simp
def v16 (l : List Nat) : Nat := l.foldl (fun n d => n * 16 + d) 0
theorem vl_map {cap : Bool} : ∀ (l : List Nat) (x : Nat), (∀ d ∈ l, d < 16) → (l.map (dgc cap)).foldl (fun n c => n * 16 + (hx c).toNat) x = l.foldl (fun n d => n * 16 + d) x
  | [], _, _ => rfl
  | d :: l, x, h => by
    rw [List.map_cons, List.foldl_cons, List.foldl_cons, hx_dgc (h d (by simp)), Int.toNat_natCast]
    exact vl_map l _ (fun y hy => h y (by simp [hy]))
theorem dgs_v {n : Nat} (h : n < 65536) : v16 (dgs n) = n := by unfold v16 dgs; (repeat' split) <;> simp <;> omega
theorem pad_v {n : Nat} (h : n < 65536) : v16 (pad n) = n := by unfold v16 pad; simp; omega
theorem pc_map {cap : Bool} {l : List Nat} (h1 : 1 ≤ l.length) (h4 : l.length ≤ 4) (hb : ∀ d ∈ l, d < 16) : pc (l.map (dgc cap)) = some (v16 l) := by
  unfold pc
  rw [if_pos]
  · congr 1
    exact vl_map l 0 hb
  · refine ⟨by simpa using h1, by simpa using h4, ?_⟩
    rw [List.all_eq_true]
    intro c hc
    obtain ⟨d, hd, rfl⟩ := List.mem_map.1 hc
    unfold hxd
    rw [hx_dgc (hb d hd)]
    exact decide_eq_true (by omega)
theorem hexT_pc {cap nts : Bool} {n : Nat} (h : n < 65536) : pc (hexT cap nts n) = some n := by
  unfold hexT
  split
  · rw [pc_map (by simp [pad]) (by simp [pad]) (pad_bd n), pad_v h]
  · rw [pc_map (dgs_len n).1 (dgs_len n).2 (dgs_bd h), dgs_v h]
theorem hexT_mem {cap nts : Bool} {n : Nat} (h : n < 65536) {c : Int} (hc : c ∈ hexT cap nts n) : (48 ≤ c ∧ c ≤ 57) ∨ (65 ≤ c ∧ c ≤ 102) := by
  unfold hexT at hc
  obtain ⟨d, hd, rfl⟩ := List.mem_map.1 hc
  refine dgc_bd ?_
  split at hd
  · exact pad_bd n d hd
  · exact dgs_bd h d hd
theorem hexT_len (cap nts : Bool) (n : Nat) : 1 ≤ (hexT cap nts n).length ∧ (hexT cap nts n).length ≤ 4 := by
  unfold hexT
  split
  · simp [pad]
  · rw [List.length_map]; exact dgs_len n
theorem hexT_txt {cap nts : Bool} {n : Nat} (h : n < 65536) : Txt (hexT cap nts n) := by
  refine ⟨fun e => ?_, fun hm => ?_⟩
  · have := (hexT_len cap nts n).1
    rw [e] at this
    simp at this
  · have := hexT_mem h hm
    omega
theorem hexT_dot {cap nts : Bool} {n : Nat} (h : n < 65536) : dt (hexT cap nts n) = none := by
  unfold dt
  rw [sp_one 46 _ (fun hm => by have := hexT_mem h hm; omega)]
  show four2 [dn (hexT cap nts n)] = none
  cases dn (hexT cap nts n) <;> rfl
theorem lst_hex {last cap nts : Bool} {n : Nat} (h : n < 65536) : lst last (hexT cap nts n) = some [n] := by
  unfold lst
  rw [hexT_dot h, hexT_pc h]
  cases last <;> rfl
/-- Pieces, one behind the other. -/
theorem pcs_hex {last cap nts : Bool} : ∀ (vs : List Nat), (∀ v ∈ vs, v < 65536) → pcs last (vs.map (hexT cap nts)) = some vs
  | [], _ => rfl
  | [v], h => lst_hex (h v (by simp))
  | v :: u :: r, h => by
    have ih := pcs_hex (last := last) (cap := cap) (nts := nts) (u :: r) (fun x hx => h x (by simp at hx ⊢; right; exact hx))
    show put (pc (hexT cap nts v)) (pcs last ((u :: r).map (hexT cap nts))) = _
    rw [ih, hexT_pc (h v (by simp))]; rfl
/-! ### A number below 256 -/
def tds (n : Nat) : List Nat := if n < 10 then [n] else if n < 100 then [n / 10, n % 10] else [n / 100, n / 10 % 10, n % 10]
def tenT (n : Nat) : List Int := (tds n).map fun (d : Nat) => 48 + (d : Int)
theorem tds_all : ∀ n : Fin 256, dn (tenT n.val) = some n.val ∧ (tenT n.val).all (fun c => decide (48 ≤ c ∧ c ≤ 57)) = true := by decide +kernel
theorem tenT_dn {n : Nat} (h : n < 256) : dn (tenT n) = some n := (tds_all ⟨n, h⟩).1
theorem tenT_mem {n : Nat} (h : n < 256) {c : Int} (hc : c ∈ tenT n) : 48 ≤ c ∧ c ≤ 57 := of_decide_eq_true (List.all_eq_true.1 (tds_all ⟨n, h⟩).2 c hc)
theorem tenT_len (n : Nat) : 1 ≤ (tenT n).length ∧ (tenT n).length ≤ 3 := by unfold tenT tds; (repeat' split) <;> simp
/-- Two pieces, dotted. -/
def dotT (x y : Nat) : List Int := joinB 46 [tenT (x / 256), tenT (x % 256), tenT (y / 256), tenT (y % 256)]
theorem dotT_dt {x y : Nat} (hx : x < 65536) (hy : y < 65536) : dt (dotT x y) = some [x, y] := by
  unfold dt dotT
  rw [sp_join 46 _ (by simp) (fun p hp => by
    intro hm
    simp at hp
    rcases hp with rfl | rfl | rfl | rfl
    · have := tenT_mem (by omega) hm; omega
    · have := tenT_mem (by omega) hm; omega
    · have := tenT_mem (by omega) hm; omega
    · have := tenT_mem (by omega) hm; omega)]
  simp only [List.map_cons, List.map_nil, tenT_dn (by omega : x / 256 < 256), tenT_dn (by omega : x % 256 < 256), tenT_dn (by omega : y / 256 < 256), tenT_dn (by omega : y % 256 < 256)]
  show some [x / 256 * 256 + x % 256, y / 256 * 256 + y % 256] = some [x, y]
  rw [show x / 256 * 256 + x % 256 = x by omega, show y / 256 * 256 + y % 256 = y by omega]
theorem dotT_txt {x y : Nat} (hx : x < 65536) (hy : y < 65536) : Txt (dotT x y) := by
  refine ⟨by simp [dotT, joinB], fun hm => ?_⟩
  simp [dotT, joinB] at hm
  rcases hm with hm | hm | hm | hm
  · have := tenT_mem (by omega) hm; omega
  · have := tenT_mem (by omega) hm; omega
  · have := tenT_mem (by omega) hm; omega
  · have := tenT_mem (by omega) hm; omega
/-- Pieces, the last two dotted. -/
theorem pcs_dot {cap nts : Bool} {x y : Nat} (hx : x < 65536) (hy : y < 65536) : ∀ (vs : List Nat), (∀ v ∈ vs, v < 65536) → pcs true (vs.map (hexT cap nts) ++ [dotT x y]) = some (vs ++ [x, y])
  | [], _ => by show lst true (dotT x y) = _; unfold lst; rw [dotT_dt hx hy]; rfl
  | [v], h => by
    show put (pc (hexT cap nts v)) (lst true (dotT x y)) = _
    unfold lst
    rw [dotT_dt hx hy, hexT_pc (h v (by simp))]; rfl
  | v :: u :: r, h => by
    have ih := pcs_dot (cap := cap) (nts := nts) hx hy (u :: r) (fun x hx => h x (by simp at hx ⊢; right; exact hx))
    show put (pc (hexT cap nts v)) (pcs true ((u :: r).map (hexT cap nts) ++ [dotT x y])) = _
    rw [ih, hexT_pc (h v (by simp))]; rfl
end Go.Proofs.YtpkmpebhlolhaaaDoor.X
