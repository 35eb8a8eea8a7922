/- Texts of one layer, one behind the other: NRA NRB NRC NRD. -/
import Derived.Test.YtpkegjbmnilmdaaDoorZN8
import Derived.Test.YtpkegjbmnilmdaaDoorZD5
/- What the document's own definition answers, of one code point: its class, and what it is made of. -/
namespace Go.Proofs.YtpkegjbmnilmdaaDoor.N
open Go.RowKit
set_option linter.unusedVariables false

set_option maxRecDepth 100000 in
set_option maxHeartbeats 2000000 in
theorem rclass_any (r : Int) (w : World) : Calls Tryd.prog 53 #[.int .i32 r] w fun e W' => e = .returned (.int .u8 (cl r)) ∧ Below w.heap.size w W' := by
  have hcl := cl_ref r
  have hfind := D.rfind_any r
  obtain ⟨⟨x0, x1, x2, x3, x4, x5, x6, x7, x8, x9, x10⟩, hx⟩ : ∃ x, x = D.rfnd r := ⟨_, rfl⟩
  rw [← hx] at hfind hcl
  dsimp only at hcl
  rw [← hcl]
  have HF := hid hfind
  have hfl : ∀ W : World, (Instr.field 51 (.agg #[.int .i32 x0, .int .i32 x1, .int .u8 x2, .int .i32 x3, .int .i32 x4, .int .i32 x5, .int .u8 x6, .int .u8 x7, .int .u8 x8, .bool x9, .int .u8 x10]) 8).run Tryd.prog W = .ok (.int .u8 x8) W := fun W => by kernel_rfl
  clear hfind hcl hx
  go_enter Tryd.func53, Tryd.ntmps53
  go_wp2_with fail
  refine (HF.out _).mono ?_
  simp only [D.cells11]
  rintro e w0 ⟨rfl, hB0⟩
  go_wp2
  go_ret
  exact ⟨rfl, hB0⟩

theorem fd_pre (L : List Int) (k : Nat) (hk : k < L.length) : (L.take (k + 1)).flatMap fd = (L.take k).flatMap fd ++ fd (L[k]?.getD 0) := by
  have h : L.take (k + 1) = L.take k ++ [L[k]?.getD 0] := by rw [List.take_add_one, List.getElem?_eq_getElem hk]; rfl
  rw [h, List.flatMap_append]
  simp
theorem fd_more (l : List Int) : l.length ≤ (l.flatMap fd).length := by
  induction l with
  | nil => simp
  | cons x l ih => have := (fd_len x).1; rw [List.flatMap_cons, List.length_append, List.length_cons]; omega
theorem d_cells {w : World} {v : Value} {L : List Int} (h : D.IntsAt w v L) : ∃ a c, v = .slice a L.length c ∧ (0 < L.length → ∃ b, a = some ⟨b, 0, none⟩ ∧ ∀ j, j < L.length → w.cell? ⟨b, j, none⟩ = some (.int .i32 (L[j]?.getD 0))) := by
  obtain ⟨a, c, e, _, f⟩ := h
  refine ⟨a, c, e, fun hp => ?_⟩
  obtain ⟨b, e2, hb⟩ := f hp
  refine ⟨b, e2, fun j hj => ?_⟩
  simp [World.cell?, hb, List.getElem?_eq_getElem hj]
theorem own_base {W : World} {a b : Nat} {v : Value} {n : Nat} {X : List Value} (h : W.ownsRow b 21 1 v n X) (hab : a ≤ b) : W.ownsRow a 21 1 v n X := by
  rcases h with ⟨h1, ⟨rfl, h2⟩ | ⟨g, cap, cur, rfl, hbg, h3⟩⟩
  · exact ⟨h1, .inl ⟨rfl, h2⟩⟩
  · exact ⟨h1, .inr ⟨g, cap, cur, rfl, by omega, h3⟩⟩
theorem gives_late {w w1 W : World} {v : Value} {n : Nat} {L : List Int} (hn : n = L.length) (h1 : Below w.heap.size w w1) (hB : Below w1.heap.size w1 W) (h : W.ownsRow w1.heap.size 21 1 v n (L.map (Value.int .i32))) : Gives L w (.returned v) W :=
  ⟨v, rfl, hn ▸ own_base h h1.size, h1.trans (hB.mono h1.size)⟩
theorem gives_own {w W : World} {v : Value} {n : Nat} {L : List Int} (hn : n = L.length) (hB : Below w.heap.size w W) (h : W.ownsRow w.heap.size 21 1 v n (L.map (Value.int .i32))) : Gives L w (.returned v) W := ⟨v, rfl, hn ▸ h, hB⟩
theorem gives_one {w W : World} {r : Int} (hB : Below w.heap.size w W) : Gives [r] w (.returned (.slice (some ⟨W.heap.size, 0, none⟩) 1 1)) (W.alloc (.cells #[.int .i32 r] 21)) := by
  refine ⟨_, rfl, ⟨rfl, .inr ⟨W.heap.size, 1, _, rfl, hB.size, heap_alloc_last W _, ?_⟩⟩, hB.alloc hB.size _⟩
  all_goals first | rfl | (simp [maxLen])

set_option maxRecDepth 100000 in
set_option maxHeartbeats 2000000 in
theorem rapart_zero (r : Int) (h : D.dcp r = []) (w : World) : Calls Tryd.prog 38 #[.int .i32 r] w fun e W' => Gives (fd r) w e W' := by
  rw [fd_nil h]
  have HD := D.rdecomp_any r w
  rw [D.rdcp_eq, h] at HD
  replace HD := hid HD
  clear h
  go_enter Tryd.func38, Tryd.ntmps38
  go_wp2_with fail
  refine HD.out.mono ?_
  rintro e W1 ⟨⟨v1, rfl, h1⟩, B1⟩
  obtain ⟨a1, c1, rfl, _⟩ := d_cells h1
  rw [List.length_nil]
  clear HD h1
  go_wp2
  go_ret
  exact gives_one B1

set_option maxRecDepth 100000 in
set_option maxHeartbeats 4000000 in
theorem rapart_n : ∀ (m : Nat) (r : Int), tall m r = true → ∀ w : World, Calls Tryd.prog 38 #[.int .i32 r] w fun e W' => Gives (fd r) w e W'
  | 0, r, ht, w => rapart_zero r (by simpa [tall] using ht) w
  | m + 1, r, ht, w => by
    by_cases hd : D.dcp r = []
    · exact rapart_zero r hd w
    rw [fd_cons hd]
    have HD := D.rdecomp_any r w
    rw [D.rdcp_eq] at HD
    obtain ⟨L, hL⟩ : ∃ L, D.dcp r = L := ⟨_, rfl⟩
    have htl : ∀ c ∈ L, tall m c = true := by
      rw [← hL]; simpa [tall] using ht
    have hL2 : L.length ≤ 3 := by
      have h1 := (fd_len r).2
      rw [fd_cons hd, hL] at h1
      have := fd_more L
      omega
    rw [hL] at HD hd ⊢
    have HCALL : Hid (∀ c ∈ L, ∀ w : World, Calls Tryd.prog 38 #[.int .i32 c] w fun e W' => Gives (fd c) w e W') := fun c hc => rapart_n m c (htl c hc)
    have HDC := hid HD
    clear ht hL htl HD
    obtain ⟨n, hn⟩ : ∃ n, L.length = n := ⟨_, rfl⟩
    have hn0 : 0 < n := by
      cases L with
      | nil => exact absurd rfl hd
      | cons x l => simp at hn; omega
    rw [hn] at hL2
    clear hd
    go_enter Tryd.func38, Tryd.ntmps38
    go_wp2_with fail
    refine HDC.out.mono ?_
    rintro e W1 ⟨⟨v1, rfl, h1⟩, B1⟩
    obtain ⟨a1, c1, rfl, hc1⟩ := d_cells h1
    rw [hn] at hc1 ⊢
    obtain ⟨b1, rfl, hc2⟩ := hc1 hn0
    have HC := hid hc2
    have hz : ((n : Int) == 0) = false := by simp; omega
    have HN := hid hn
    have HB1 := hid B1
    clear HDC h1 hc1 hc2 hn B1
    go_wp2_with fail
    go_loopw [4, 5] (fun v4 i wr => ∃ k p : Nat, k ≤ n ∧ i = .int .i64 k ∧ p ≤ k * 3 ∧ Hid (p = ((L.take k).flatMap fd).length) ∧ Hid (wr.ownsRow W1.heap.size 21 1 v4 p (((L.take k).flatMap fd).map (Value.int .i32))) ∧ Hid (Below W1.heap.size W1 wr)) (fun _ i _ => n - (intOf i).toNat)
    case atStart => exact ⟨0, 0, Nat.zero_le _, rfl, Nat.le_refl _, rfl, World.ownsRow_nil _ _ _ _, Below.refl _ _⟩
    case round =>
      obtain ⟨k, p, hk, rfl, hp, HP, HR, HBW⟩ := hrel
      by_cases hlt : k < n
      · have hltz : (k : Int) < (n : Int) := by omega
        have hkl : k < L.length := by have := HN.out; omega
        have hc := HC.out k hlt
        have d1 : wr.cell? ⟨b1, k, none⟩ = some (.int .i32 (L[k]?.getD 0)) := (HBW.out.cell (p := ⟨b1, k, none⟩) (lt_of_cell hc)).trans hc
        have hcall := HCALL.out (L[k]?.getD 0) (by rw [List.getElem?_eq_getElem hkl]; exact List.getElem_mem hkl)
        have hpre := fd_pre L k hkl
        have hfl := fd_len (L[k]?.getD 0)
        obtain ⟨c, hce⟩ : ∃ c, L[k]?.getD 0 = c := ⟨_, rfl⟩
        rw [hce] at d1 hcall hpre hfl
        have HK := hid hcall
        have HE := hid hpre
        have hfl1 := hfl.2
        clear hc hcall hpre hce hkl hfl
        go_wp2_with fail
        refine (HK.out _).mono ?_
        rintro e W2 ⟨v2, rfl, r2, B2⟩
        obtain ⟨a2, c2, rfl⟩ := own_sh r2
        replace HR := hid (ownsRow_below HR.out B2 (Nat.le_refl _))
        replace HBW := hid (HBW.out.trans (B2.mono HBW.out.size))
        have R2 := hid r2
        clear r2 B2 d1
        go_wp2_with ((at_builtin; refine U.wpList_append_ints rfl _ _ rfl _ _ _ ((L.take k).flatMap fd) rfl HR.out _ (fd c) rfl (U.SrcInts.own rfl R2.out) (by omega) HBW.out.size ?_; intro v3 W3 r3 g3))
        go_roundw
        case rel =>
          refine ⟨k + 1, p + (fd c).length, by omega, by go_num, by omega, ?_, ?_, below_own HBW.out HR.out g3⟩
          · show _ = _; rw [HE.out, List.length_append, HP.out]
          · show World.ownsRow _ _ _ _ _ _ _; rw [HE.out]; exact r3
        case measure => simp [intOf]; omega
      · have hltz : ¬ (k : Int) < (n : Int) := by omega
        have hkn : k = n := by omega
        go_wp2
        go_ret
        refine gives_late (n := p) ?_ HB1.out HBW.out ?_
        · have h1 := HP.out; rw [hkn, List.take_of_length_le (by rw [HN.out]; exact Nat.le_refl _)] at h1; exact h1
        · have h1 := HR.out; rw [hkn, List.take_of_length_le (by rw [HN.out]; exact Nat.le_refl _)] at h1; exact h1
theorem rapart_any (r : Int) (w : World) : Calls Tryd.prog 38 #[.int .i32 r] w fun e W' => Gives (fd r) w e W' := rapart_n 4 r (tall4 r) w
end Go.Proofs.YtpkegjbmnilmdaaDoor.N
/- The document's own way of ordering: neighbours change places till none is left that must. -/
namespace Go.Proofs.YtpkegjbmnilmdaaDoor.N
open Go.RowKit
set_option linter.unusedVariables false

def mz : List Int → Nat
  | [] => 0
  | x :: l => (l.length + 1) * (cl x).toNat + mz l
theorem mz_swap (X : List Int) (a b : Int) (Y : List Int) (h : cl b < cl a) : mz (X ++ b :: a :: Y) < mz (X ++ a :: b :: Y) := by
  induction X with
  | nil =>
    have h0 := cl_nonneg b
    have hn : (cl b).toNat < (cl a).toNat := by omega
    simp only [List.nil_append, mz, List.length_cons]
    rw [Nat.succ_mul (Y.length + 1), Nat.succ_mul (Y.length + 1)]
    omega
  | cons x X ih =>
    simp only [List.cons_append, mz, List.length_append, List.length_cons]
    omega
def blk : Option Addr → Nat
  | some p => p.block
  | none => 0
def bitOf : Value → Nat
  | .bool true => 1
  | _ => 0
def zrow (W : World) (g n : Nat) : List Int := (List.range n).map fun j => match W.cell? ⟨g, j, none⟩ with | some (.int _ x) => x | _ => 0
theorem zrow_of {W : World} {base n cap : Nat} {a : Option Addr} {Z : List Int} (hn : Z.length = n) (h : W.ownsRow base 21 1 (.slice a n cap) n (Z.map (Value.int .i32))) : zrow W (blk a) n = Z := by
  by_cases h0 : 0 < n
  · obtain ⟨g, c, e, _, hc⟩ := own_get h hn.symm h0
    cases e
    unfold zrow
    apply List.ext_getElem
    · simp [hn]
    · intro i h1 h2
      have h3 := hc i (by omega)
      simp only [List.getElem_map, List.getElem_range, blk, h3]
      rw [List.getElem?_eq_getElem h2]
      rfl
  · obtain rfl : n = 0 := by omega
    rw [List.length_eq_zero_iff.1 hn]; rfl
theorem two_of {Z : List Int} {k n : Nat} (hn : Z.length = n) (h : k + 1 < n) : ∃ X x y Y, Z = X ++ x :: y :: Y ∧ X.length = k := by
  refine ⟨Z.take k, Z[k], Z[k + 1], Z.drop (k + 2), ?_, by rw [List.length_take]; omega⟩
  rw [← List.drop_eq_getElem_cons (by omega), ← List.drop_eq_getElem_cons (by omega), List.take_append_drop]
theorem mid0 (X : List Int) (x : Int) (Y : List Int) (k : Nat) (h : X.length = k) : (X ++ x :: Y)[k]?.getD 0 = x := by
  subst h; simp
theorem mid1 (X : List Int) (x y : Int) (Y : List Int) (k : Nat) (h : X.length = k) : (X ++ x :: y :: Y)[k + 1]?.getD 0 = y := by
  subst h; simp
theorem take1 (X : List Int) (x y : Int) (Y : List Int) (k : Nat) (h : X.length = k) : (X ++ x :: y :: Y).take (k + 1) = X ++ [x] := by
  rw [show X ++ x :: y :: Y = (X ++ [x]) ++ (y :: Y) by simp]; exact List.take_left' (by simp [h])
theorem take2 (X : List Int) (x y : Int) (Y : List Int) (k : Nat) (h : X.length = k) : (X ++ x :: y :: Y).take (k + 1 + 1) = (X ++ [x]) ++ [y] := by
  rw [show X ++ x :: y :: Y = ((X ++ [x]) ++ [y]) ++ Y by simp]; exact List.take_left' (by simp [h])
theorem swapZ (X : List Int) (x y : Int) (Y : List Int) (k : Nat) (h : X.length = k) : (((X ++ x :: y :: Y).map (Value.int .i32)).set k (.int .i32 y)).set (k + 1) (.int .i32 x) = (X ++ y :: x :: Y).map (Value.int .i32) := by
  subst h
  rw [← List.map_set, ← List.map_set]
  congr 1
  rw [List.set_append_right _ _ (Nat.le_refl _), Nat.sub_self, List.set_cons_zero, List.set_append_right _ _ (by omega), show X.length + 1 - X.length = 1 by omega]
  rfl
theorem inO_one (Z : List Int) : inO ((Z.take 1).map pt) := by
  cases Z with
  | nil => trivial
  | cons x l => trivial
theorem inO_more {X : List Int} {x y : Int} (h : inO ((X ++ [x]).map pt)) (hc : cl y = 0 ∨ cl x ≤ cl y) : inO ((X ++ [x] ++ [y]).map pt) := by
  rw [List.map_append]
  refine inO_append.2 ⟨h, trivial, fun a b ha hb => ?_⟩
  rw [List.map_append, List.map_singleton, List.getLast?_append] at ha
  simp at ha hb
  subst ha; subst hb
  exact hc
theorem ord_swapI (X : List Int) (x y : Int) (Y : List Int) (h0 : cl y ≠ 0) (h : cl y < cl x) : ord ((X ++ y :: x :: Y).map pt) = ord ((X ++ x :: y :: Y).map pt) := by
  have hy := cl_nonneg y
  simp only [List.map_append, List.map_cons]
  exact ord_swap _ _ (pt y) (pt x) h0 (by show cl x ≠ 0; omega) (by show cl y ≠ cl x; omega)

def Own (base : Nat) (v : Value) (n : Nat) (L Z : List Int) (w W : World) : Prop := Z.length = n ∧ W.ownsRow base 21 1 v n (Z.map (Value.int .i32)) ∧ ord (Z.map pt) = ord (L.map pt) ∧ Below base w W

set_option maxRecDepth 100000 in
set_option maxHeartbeats 4000000 in
theorem rorder_any (v : Value) (L : List Int) (w : World) (hlen : L.length ≤ 50000) (hv : U.SrcInts w v L) : Calls Tryd.prog 39 #[v] w fun e W' => Gives (ordI L) w e W' := by
  have HV := hid hv
  have hO := ordI_len L
  have HO := hid hO
  clear hv hO
  obtain ⟨n, hn⟩ : ∃ n, L.length = n := ⟨_, rfl⟩
  rw [hn] at hlen
  have HN := hid hn
  clear hn
  go_enter Tryd.func39, Tryd.ntmps39
  go_wp2_with ((at_builtin; refine U.wpList_append_ints rfl _ _ rfl w.heap.size (.slice none 0 0) 0 [] rfl (World.ownsRow_nil _ _ _ _) _ L rfl HV.out (by have := HN.out; omega) (Nat.le_refl _) ?_; intro v' w1 hown hgrow))
  have hB1 : Below w.heap.size w w1 := (Below.refl _ w).grown hgrow (Nat.le_refl _) (fun k e => by simp [Value.ownBlock] at e)
  obtain ⟨a, cap, rfl⟩ := own_sh hown
  have hown2 : w1.ownsRow w.heap.size 21 1 (.slice a n cap) n (L.map (Value.int .i32)) := by
    have := hown; rw [HN.out, Nat.zero_add] at this; simpa using this
  rw [HN.out, Nat.zero_add]
  have H1 : Hid (Own w.heap.size (.slice a n cap) n L L w w1) := ⟨HN.out, hown2, rfl, hB1⟩
  clear hown hgrow hB1 hown2 HV
  go_wp2_with fail
  go_loopw [4] (fun v4 wr => ∃ (ag : Bool) (Z : List Int), v4 = .bool ag ∧ Hid (Own w.heap.size (.slice a n cap) n L Z w wr) ∧ Hid (ag = false → inO (Z.map pt)))
    (fun v4 wr => 2 * mz (zrow wr (blk a) n) + bitOf v4)
  case atStart => exact ⟨true, L, rfl, H1, fun h => by cases h⟩
  case round =>
    obtain ⟨ag, Z, rfl, HS, HI⟩ := hrel
    clear H1
    cases ag with
    | false =>
      have HJ := hid (HI.out rfl)
      clear HI
      go_wp2
      go_ret
      have h := HS.out
      have hz : ordI L = Z := by
        unfold ordI; rw [← h.2.2.1, ord_id _ HJ.out, List.map_map]
        exact List.map_id' Z
      rw [hz]
      exact ⟨_, rfl, by rw [h.1]; exact h.2.1, h.2.2.2⟩
    | true =>
      clear HI
      go_wp2_with fail
      go_loopw [4, 5] (fun v4 i wq => ∃ (ag : Bool) (k : Nat) (Y : List Int), v4 = .bool ag ∧ i = .int .i64 (k + 1 : Nat) ∧ k ≤ n ∧ Hid (Own w.heap.size (.slice a n cap) n L Y w wq) ∧ Hid (mz Y ≤ mz Z) ∧ Hid (ag = true → mz Y < mz Z) ∧ Hid (ag = false → inO ((Y.take (k + 1)).map pt)))
        (fun _ i _ => n + 1 - (intOf i).toNat)
      case atStart => exact ⟨false, 0, Z, rfl, rfl, Nat.zero_le _, HS, Nat.le_refl _, (fun h => by cases h), fun _ => inO_one Z⟩
      case round =>
        obtain ⟨ag, k, Y, rfl, rfl, hk, HS2, HM, HT, HI⟩ := hrel
        by_cases hlt : k + 1 < n
        · obtain ⟨X, x, y, R, hY, hX⟩ := two_of HS2.out.1 hlt
          have hown := HS2.out.2.1
          obtain ⟨g, c', e, hg, hc⟩ := own_get hown HS2.out.1.symm (by omega)
          cases e
          have e0 := hc k (by omega)
          have e1 := hc (k + 1) hlt
          rw [hY, mid0 _ _ _ _ hX] at e0
          rw [hY, mid1 _ _ _ _ _ hX] at e1
          have HY := hid hY
          have HX := hid hX
          have jz : (k : Int) + 1 < (n : Int) := by omega
          have jz1 : (k : Int) < (n : Int) := by omega
          have j0 : (0 : Int) ≤ (k : Int) := by omega
          have j1 : (0 : Int) ≤ (k : Int) + 1 := by omega
          have je : ((k : Int) + 1).toNat = k + 1 := by omega
          have hne : Nonempty (Later wr) := ⟨⟨wr, Below.refl _ _⟩⟩
          have x0 : ∀ z : Later wr, z.W.cell? ⟨g, k, none⟩ = some (.int .i32 x) := fun z => (z.h.cell (p := ⟨g, k, none⟩) hg).trans e0
          have x1 : ∀ z : Later wr, z.W.cell? ⟨g, k + 1, none⟩ = some (.int .i32 y) := fun z => (z.h.cell (p := ⟨g, k + 1, none⟩) hg).trans e1
          have HCX : Hid (∀ W : World, Calls Tryd.prog 53 #[.int .i32 x] W fun e W' => e = .returned (.int .u8 (cl x)) ∧ Below W.heap.size W W') := fun W => rclass_any x W
          have HCY : Hid (∀ W : World, Calls Tryd.prog 53 #[.int .i32 y] W fun e W' => e = .returned (.int .u8 (cl y)) ∧ Below W.heap.size W W') := fun W => rclass_any y W
          obtain ⟨cx, hcx⟩ : ∃ cx, cl x = cx := ⟨_, rfl⟩
          obtain ⟨cy, hcy⟩ : ∃ cy, cl y = cy := ⟨_, rfl⟩
          rw [hcx] at HCX
          rw [hcy] at HCY
          have HKX := hid hcx
          have HKY := hid hcy
          clear hc e0 e1 hY hX hown hcx hcy
          go_wp2_with fail
          refine wp_region_quiet_in (by kernel_rfl) (by kernel_rfl) ?_
          repeat (go_big_quiet_step ((go_at_call 53; first | exact Later.call _ (HCX.out _) | exact Later.call _ (HCY.out _))))
          refine wpQuiet_nil ?_
          rintro _ ⟨z, rfl⟩
          have HSZ : Hid (Own w.heap.size (.slice (some ⟨g, 0, none⟩) n cap) n L Y w z.W) := ⟨HS2.out.1, ownsRow_below HS2.out.2.1 z.h (Nat.le_refl _), HS2.out.2.2.1, HS2.out.2.2.2.trans (z.h.mono HS2.out.2.2.2.size)⟩
          have y0 := x0 z
          have y1 := x1 z
          clear x0 x1 hne HCX HCY HS2
          generalize z.W = wz at HSZ y0 y1 ⊢
          by_cases hcy : cy = 0
          · have hz : (cy != 0) = false := by simpa using hcy
            have hz2 : (cy == 0) = true := by simpa using hcy
            have HC0 := hid hcy
            clear hcy y0 y1
            go_wp2
            go_roundw
            case rel => exact ⟨ag, k + 1, Y, rfl, by go_num, by omega, HSZ, HM, HT, fun h => by
              have h1 := HI.out h
              rw [HY.out, take1 _ _ _ _ _ HX.out] at h1
              rw [HY.out, take2 _ _ _ _ _ HX.out]
              exact inO_more h1 (.inl (by rw [HKY.out, HC0.out]))⟩
            case measure => simp [intOf] <;> omega
          · have hz : (cy != 0) = true := by simpa using hcy
            have hz2 : (cy == 0) = false := by simpa using hcy
            have HC0 := hid hcy
            clear hcy
            by_cases hgt : cy < cx
            · have HG := hid hgt
              have fr : ∀ j, wz.frozen? ⟨g, j, none⟩ = false := fun j => by
                rcases HSZ.out.2.1.2 with ⟨h, _⟩ | ⟨g', cap', cur, h, _, hg, _⟩
                · cases h
                · cases h; simp [World.frozen?, hg]
              have f0 := fr k
              have f1 := fr (k + 1)
              have hgw : w.heap.size ≤ g := (HSZ.out.2.1.lt g rfl).1
              have HGW := hid hgw
              clear fr hgw
              go_wp2_with fail
              go_region
              have st1 := HSZ.out.2.1.stored k (.int .i32 y)
              have st2 := st1.1.stored (k + 1) (.int .i32 x)
              have hbb := (HSZ.out.2.2.2.setCell (p := ⟨g, k, none⟩) HGW.out (.int .i32 y)).setCell (p := ⟨g, k + 1, none⟩) HGW.out (.int .i32 x)
              have hrw := st2.1
              rw [HY.out, swapZ _ _ _ _ _ HX.out] at hrw
              have HN2 : Hid (Own w.heap.size (.slice (some ⟨g, 0, none⟩) n cap) n L (X ++ y :: x :: R) w (((wz.setCell ⟨g, k, none⟩ (.int .i32 y)).setCell ⟨g, k + 1, none⟩ (.int .i32 x)).drew)) := ⟨by have h1 := HSZ.out.1; rw [HY.out] at h1; simp at h1 ⊢; exact h1, hrw.drew, by
                have h1 := HSZ.out.2.2.1
                rw [HY.out] at h1
                rw [← h1]
                exact ord_swapI X x y R (by rw [HKY.out]; exact HC0.out) (by rw [HKY.out, HKX.out]; exact HG.out), hbb.drew⟩
              have hmz : mz (X ++ y :: x :: R) < mz Y := by rw [HY.out]; exact mz_swap X x y R (by rw [HKY.out, HKX.out]; exact HG.out)
              have HLT : Hid (mz (X ++ y :: x :: R) < mz Z) := Nat.lt_of_lt_of_le hmz HM.out
              clear st1 st2 hbb hrw f0 f1 y0 y1 HSZ hmz
              generalize World.drew _ = wn at HN2 ⊢
              go_wp2
              go_roundw
              case rel => exact ⟨true, k + 1, X ++ y :: x :: R, rfl, by go_num, by omega, HN2, Nat.le_of_lt HLT.out, (fun _ => HLT.out), fun h => by cases h⟩
              case measure => simp [intOf] <;> omega
            · have HG := hid hgt
              clear y0 y1
              go_wp2
              go_roundw
              case rel => exact ⟨ag, k + 1, Y, rfl, by go_num, by omega, HSZ, HM, HT, fun h => by
                have h1 := HI.out h
                rw [HY.out, take1 _ _ _ _ _ HX.out] at h1
                rw [HY.out, take2 _ _ _ _ _ HX.out]
                exact inO_more h1 (.inr (by rw [HKY.out, HKX.out]; have := HG.out; omega))⟩
              case measure => simp [intOf] <;> omega
        · have hltz : ¬ (k : Int) + 1 < (n : Int) := by omega
          go_wp2
          go_roundw
          case rel => exact ⟨ag, Y, rfl, HS2, fun h => by have := HI.out h; rwa [List.take_of_length_le (by have := HS2.out.1; omega)] at this⟩
          case measure =>
            rw [zrow_of HS2.out.1 HS2.out.2.1, zrow_of HS.out.1 HS.out.2.1]
            have h1 := HM.out
            cases ag with
            | false => simp only [bitOf]; omega
            | true => have := HT.out rfl; simp only [bitOf]; omega
end Go.Proofs.YtpkegjbmnilmdaaDoor.N
/- The document's own way of taking apart. -/
namespace Go.Proofs.YtpkegjbmnilmdaaDoor.N
open Go.RowKit
set_option linter.unusedVariables false

theorem Gives.late {L : List Int} {w w1 W : World} {e : Ending} (h1 : Below w.heap.size w w1) (h : Gives L w1 e W) : Gives L w e W := by
  obtain ⟨v, e, hr, hb⟩ := h
  exact ⟨v, e, own_base hr h1.size, h1.trans (hb.mono h1.size)⟩
theorem u_cells {w : World} {v : Value} {L : List Int} (h : U.IntsAt w v L) : ∃ a c, v = .slice a L.length c ∧ (0 < L.length → ∃ b off, a = some ⟨b, off, none⟩ ∧ ∀ j, j < L.length → w.cell? ⟨b, off + j, none⟩ = some (.int .i32 (L[j]?.getD 0))) := by
  rcases h with ⟨rfl, x, c, rfl⟩ | ⟨hp, b, off, c, rfl, h⟩
  · exact ⟨x, c, rfl, fun h => by simp at h⟩
  · exact ⟨_, c, rfl, fun _ => ⟨b, off, rfl, h⟩⟩

set_option maxRecDepth 100000 in
set_option maxHeartbeats 4000000 in
theorem rnfd_any (v : Value) (L : List Int) (w : World) (hlen : L.length ≤ 10000) (hv : U.IntsAt w v L) : Calls Tryd.prog 21 #[v] w fun e W' => Gives (nfdI L) w e W' := by
  obtain ⟨a, cap, rfl, hc1⟩ := u_cells hv
  have HE0 : Hid (nfdI L = ordI (L.flatMap fd)) := rfl
  obtain ⟨n, hn⟩ : ∃ n, L.length = n := ⟨_, rfl⟩
  rw [hn] at hc1 hlen ⊢
  have HC := hid hc1
  have HN := hid hn
  clear hc1 hn hv
  go_enter Tryd.func21, Tryd.ntmps21
  go_wp2_with fail
  go_loopw [3, 4] (fun v4 i wr => ∃ k p : Nat, k ≤ n ∧ i = .int .i64 k ∧ p ≤ k * 3 ∧ Hid (p = ((L.take k).flatMap fd).length) ∧ Hid (wr.ownsRow w.heap.size 21 1 v4 p (((L.take k).flatMap fd).map (Value.int .i32))) ∧ Hid (Below w.heap.size w wr)) (fun _ i _ => n - (intOf i).toNat)
  case atStart => exact ⟨0, 0, Nat.zero_le _, rfl, Nat.le_refl _, rfl, World.ownsRow_nil _ _ _ _, Below.refl _ _⟩
  case round =>
    obtain ⟨k, p, hk, rfl, hp, HP, HR, HB⟩ := hrel
    by_cases hlt : k < n
    · have hltz : (k : Int) < (n : Int) := by omega
      have hkl : k < L.length := by have := HN.out; omega
      obtain ⟨b1, o1, rfl, hc⟩ := HC.out (by omega)
      have hck := hc k hlt
      have d1 : wr.cell? ⟨b1, o1 + k, none⟩ = some (.int .i32 (L[k]?.getD 0)) := (HB.out.cell (p := ⟨b1, o1 + k, none⟩) (lt_of_cell hck)).trans hck
      have hpre := fd_pre L k hkl
      have hfl := fd_len (L[k]?.getD 0)
      obtain ⟨c, hce⟩ : ∃ c, L[k]?.getD 0 = c := ⟨_, rfl⟩
      rw [hce] at d1 hpre hfl
      have HE := hid hpre
      have hfl1 := hfl.2
      clear hc hck hpre hce hkl hfl
      go_wp2_with fail
      refine (rapart_any _ _).mono ?_
      rintro e W2 ⟨v2, rfl, r2, B2⟩
      obtain ⟨a2, c2, rfl⟩ := own_sh r2
      replace HR := hid (ownsRow_below HR.out B2 (Nat.le_refl _))
      replace HB := hid (HB.out.trans (B2.mono HB.out.size))
      have R2 := hid r2
      clear r2 B2 d1
      go_wp2_with ((at_builtin; refine U.wpList_append_ints rfl _ _ rfl _ _ _ ((L.take k).flatMap fd) rfl HR.out _ (fd c) rfl (U.SrcInts.own rfl R2.out) (by omega) HB.out.size ?_; intro v3 W3 r3 g3))
      go_roundw
      case rel =>
        refine ⟨k + 1, p + (fd c).length, by omega, by go_num, by omega, ?_, ?_, below_own HB.out HR.out g3⟩
        · show _ = _; rw [HE.out, List.length_append, HP.out]
        · show World.ownsRow _ _ _ _ _ _ _; rw [HE.out]; exact r3
      case measure => simp [intOf]; omega
    · have hltz : ¬ (k : Int) < (n : Int) := by omega
      have hkn : k = n := by omega
      have ht : L.take k = L := List.take_of_length_le (by rw [HN.out]; omega)
      rw [ht] at HP HR
      have hpl := HP.out
      clear ht
      go_wp2_with fail
      refine (rorder_any _ (L.flatMap fd) _ (by omega) (U.SrcInts.own hpl HR.out)).mono ?_
      rintro e W2 h2
      obtain ⟨v2, rfl, r2, B2⟩ := h2
      have HG : Hid (Gives (ordI (L.flatMap fd)) w (.returned v2) W2) := Gives.late HB.out ⟨v2, rfl, r2, B2⟩
      clear r2 B2
      go_wp2
      go_ret
      rw [HE0.out]; exact HG.out
end Go.Proofs.YtpkegjbmnilmdaaDoor.N
/- Putting together, as the document's own definition goes about it: what holds of a round. -/
namespace Go.Proofs.YtpkegjbmnilmdaaDoor.N
open Go.RowKit
set_option linter.unusedVariables false

theorem tst_zero (l : List Pt) : ∀ A s B, tst l = (some (A, s), B) → s.2 = 0 := by
  induction l using snoc_ind with
  | h0 => intro A s B h; cases h
  | h1 l c ih =>
    intro A s B h
    rw [tst_snoc] at h
    rcases tstep_cases (tst l) c with e | ⟨A', s', B', q, e1, _, _, e2⟩
    · rw [e] at h
      unfold app at h
      split at h
      · rename_i h0; cases h; exact h0
      · have h1 : (tst l).1 = some (A, s) := congrArg Prod.fst h
        exact ih A s (tst l).2 (by rw [← h1])
    · rw [e2] at h
      have h1 := ih A' s' B' e1
      cases h; exact h1

def zof (t : TS) (R : List Pt) : List Int := (tout t ++ R).map (·.1)
theorem zof_get {t : TS} {R : List Pt} {j : Nat} (h : j < (tout t).length) : (zof t R)[j]?.getD 0 = ((tout t)[j]).1 := by
  unfold zof
  rw [List.getElem?_map, List.getElem?_append_left h, List.getElem?_eq_getElem h]
  rfl
theorem zof_here (t : TS) (c : Pt) (R : List Pt) : (zof t (c :: R))[(tout t).length]?.getD 0 = c.1 := by
  unfold zof
  rw [List.getElem?_map, List.getElem?_append_right (Nat.le_refl _), Nat.sub_self]
  rfl
structure Round (Z : List Int) (i : Nat) (tl : Int) (cc : Int) (rc : Bool) : Prop where
  lo : -1 ≤ tl
  hi : tl < i
  zero : tl = -1 ∨ (0 ≤ tl ∧ cl (Z[tl.toNat]?.getD 0) = 0)
  marks : ∀ j : Nat, tl < j → j < i → cl (Z[j]?.getD 0) ≠ 0
  none : tl = -1 → rc = false
  stop : ∀ j : Nat, tl < j → j < i → ¬ cl (Z[j]?.getD 0) < cc → rc = false
  go : 0 ≤ tl → (∀ j : Nat, tl < j → j < i → cl (Z[j]?.getD 0) < cc) → rc = true
theorem round_of {l : List Pt} (hp : Pure l) (hi : inO l) {k : Nat} {t : TS} (ht : t = tst (l.take k)) (c : Pt) (R : List Pt) : Round (zof t (c :: R)) (tout t).length (tlast t) c.2 (reach t c) := by
  have htk : Pure (l.take k) := fun x hx => hp x (List.mem_of_mem_take hx)
  have hik : inO (l.take k) := by
    have := hi
    rw [← List.take_append_drop k l] at this
    exact (inO_append.1 this).1
  obtain ⟨c', hk, _⟩ := keeps_tst _ htk hik
  have hz := tst_zero (l.take k)
  rw [← ht] at hk hz
  clear ht
  have hcl : ∀ j (h : j < (tout t).length), cl ((zof t (c :: R))[j]?.getD 0) = ((tout t)[j]).2 := fun j h => by
    rw [zof_get h]
    have := hk.pure _ (List.getElem_mem h)
    exact (congrArg Prod.snd this).symm
  obtain ⟨_ | ⟨A, s⟩, B⟩ := t
  · refine ⟨by simp [tlast], by simp [tlast]; omega, .inl rfl, fun j h1 h2 => ?_, fun _ => rfl, fun _ _ _ _ => rfl, fun h => by simp [tlast] at h⟩
    rw [hcl j h2]
    exact hk.marks _ (List.getElem_mem (l := B) h2)
  · have hT : tout (some (A, s), B) = A ++ s :: B := rfl
    have htl : tlast (some (A, s), B) = (A.length : Nat) := rfl
    have hlen : (tout (some (A, s), B)).length = A.length + 1 + B.length := by rw [hT]; simp; omega
    have hB : ∀ j (h2 : j < (tout (some (A, s), B)).length), A.length < j → (tout (some (A, s), B))[j] ∈ B := fun j h2 h1 => by
      have e : (tout (some (A, s), B))[j]? = B[j - A.length - 1]? := by
        rw [hT, List.getElem?_append_right (by omega), show j - A.length = (j - A.length - 1) + 1 by omega, List.getElem?_cons_succ]
        rfl
      rw [List.getElem?_eq_getElem h2, List.getElem?_eq_getElem (by omega)] at e
      rw [Option.some.inj e]
      exact List.getElem_mem _
    have hrc : reach (some (A, s), B) c = rch B c := rfl
    refine ⟨by rw [htl]; omega, by rw [htl, hlen]; omega, .inr ⟨by rw [htl]; omega, ?_⟩, fun j h1 h2 => ?_, fun h => by rw [htl] at h; omega, fun j h1 h2 h3 => ?_, fun _ h => ?_⟩
    · rw [htl, Int.toNat_natCast, hcl _ (by rw [hlen]; omega)]
      have : (tout (some (A, s), B))[A.length]'(by rw [hlen]; omega) = s := by simp [hT]
      rw [this]
      exact hz A s B rfl
    · rw [htl] at h1
      rw [hcl j h2]
      exact hk.marks _ (hB j h2 (by omega))
    · rw [htl] at h1
      rw [hcl j h2] at h3
      rw [hrc]
      cases h4 : rch B c with
      | false => rfl
      | true => exact absurd (rch_all hk.srt h4 _ (hB j h2 (by omega))) h3
    · rw [hrc]
      unfold rch
      cases hl : B.getLast? with
      | none => rfl
      | some z =>
        have hne : B ≠ [] := fun e => by rw [e] at hl; cases hl
        have hz2 : B = B.dropLast ++ [z] := by
          have h1 := List.dropLast_concat_getLast hne
          rw [List.getLast?_eq_some_getLast hne] at hl
          cases hl; exact h1.symm
        have hBl : 0 < B.length := List.length_pos_iff.2 hne
        have hj := h (A.length + B.length) (by rw [htl]; omega) (by rw [hlen]; omega)
        rw [hcl _ (by rw [hlen]; omega)] at hj
        have e : (tout (some (A, s), B))[A.length + B.length]'(by rw [hlen]; omega) = z := by
          have e1 : (tout (some (A, s), B))[A.length + B.length]? = some z := by
            rw [hT, List.getElem?_append_right (by omega), show A.length + B.length - A.length = (B.length - 1) + 1 by omega, List.getElem?_cons_succ]
            rw [List.getLast?_eq_getElem?] at hl
            exact hl
          rw [List.getElem?_eq_getElem (by rw [hlen]; omega)] at e1
          exact Option.some.inj e1
        rw [e] at hj
        exact decide_eq_true hj
end Go.Proofs.YtpkegjbmnilmdaaDoor.N
