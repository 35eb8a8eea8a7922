/- The document's own way of ordering: neighbours change places till none is left that must. -/
import Derived.Test.YtcgfbejcehiolaaRA
namespace Go.Proofs.Ytcgfbejcehiolaa
open Go.RowKit
set_option linter.unusedVariables false

def mz : List Int → Nat
  | [] => 0
  | x :: l => (l.length + 1) * (cl x).toNat + mz l
theorem mz_swap (X : List Int) (a b : Int) (Y : List Int) (h : cl b < cl a) : mz (X ++ b :: a :: Y) < mz (X ++ a :: b :: Y) := by
  induction X with
  | nil =>
    have h0 := cl_nonneg b
    have hn : (cl b).toNat < (cl a).toNat := by omega
    simp only [List.nil_append, mz, List.length_cons]
    rw [Nat.succ_mul (Y.length + 1), Nat.succ_mul (Y.length + 1)]
    omega
  | cons x X ih =>
    simp only [List.cons_append, mz, List.length_append, List.length_cons]
    omega
def blk : Option Addr → Nat
  | some p => p.block
  | none => 0
def bitOf : Value → Nat
  | .bool true => 1
  | _ => 0
def zrow (W : World) (g n : Nat) : List Int := (List.range n).map fun j => match W.cell? ⟨g, j, none⟩ with | some (.int _ x) => x | _ => 0
theorem zrow_of {W : World} {base n cap : Nat} {a : Option Addr} {Z : List Int} (hn : Z.length = n) (h : W.ownsRow base 21 1 (.slice a n cap) n (Z.map (Value.int .i32))) : zrow W (blk a) n = Z := by
  by_cases h0 : 0 < n
  · obtain ⟨g, c, e, _, hc⟩ := own_get h hn.symm h0
    cases e
    unfold zrow
    apply List.ext_getElem
    · simp [hn]
    · intro i h1 h2
      have h3 := hc i (by omega)
      simp only [List.getElem_map, List.getElem_range, blk, h3]
      rw [List.getElem?_eq_getElem h2]
      rfl
  · obtain rfl : n = 0 := by omega
    rw [List.length_eq_zero_iff.1 hn]; rfl
theorem two_of {Z : List Int} {k n : Nat} (hn : Z.length = n) (h : k + 1 < n) : ∃ X x y Y, Z = X ++ x :: y :: Y ∧ X.length = k := by
  refine ⟨Z.take k, Z[k], Z[k + 1], Z.drop (k + 2), ?_, by rw [List.length_take]; omega⟩
  rw [← List.drop_eq_getElem_cons (by omega), ← List.drop_eq_getElem_cons (by omega), List.take_append_drop]
theorem mid0 (X : List Int) (x : Int) (Y : List Int) (k : Nat) (h : X.length = k) : (X ++ x :: Y)[k]?.getD 0 = x := by
  subst h; simp
theorem mid1 (X : List Int) (x y : Int) (Y : List Int) (k : Nat) (h : X.length = k) : (X ++ x :: y :: Y)[k + 1]?.getD 0 = y := by
  subst h; simp
theorem take1 (X : List Int) (x y : Int) (Y : List Int) (k : Nat) (h : X.length = k) : (X ++ x :: y :: Y).take (k + 1) = X ++ [x] := by
  rw [show X ++ x :: y :: Y = (X ++ [x]) ++ (y :: Y) by simp]; exact List.take_left' (by simp [h])
theorem take2 (X : List Int) (x y : Int) (Y : List Int) (k : Nat) (h : X.length = k) : (X ++ x :: y :: Y).take (k + 1 + 1) = (X ++ [x]) ++ [y] := by
  rw [show X ++ x :: y :: Y = ((X ++ [x]) ++ [y]) ++ Y by simp]; exact List.take_left' (by simp [h])
theorem swapZ (X : List Int) (x y : Int) (Y : List Int) (k : Nat) (h : X.length = k) : (((X ++ x :: y :: Y).map (Value.int .i32)).set k (.int .i32 y)).set (k + 1) (.int .i32 x) = (X ++ y :: x :: Y).map (Value.int .i32) := by
  subst h
  rw [← List.map_set, ← List.map_set]
  congr 1
  rw [List.set_append_right _ _ (Nat.le_refl _), Nat.sub_self, List.set_cons_zero, List.set_append_right _ _ (by omega), show X.length + 1 - X.length = 1 by omega]
  rfl
theorem inO_one (Z : List Int) : inO ((Z.take 1).map pt) := by
  cases Z with
  | nil => trivial
  | cons x l => trivial
theorem inO_more {X : List Int} {x y : Int} (h : inO ((X ++ [x]).map pt)) (hc : cl y = 0 ∨ cl x ≤ cl y) : inO ((X ++ [x] ++ [y]).map pt) := by
  rw [List.map_append]
  refine inO_append.2 ⟨h, trivial, fun a b ha hb => ?_⟩
  rw [List.map_append, List.map_singleton, List.getLast?_append] at ha
  simp at ha hb
  subst ha; subst hb
  exact hc
theorem ord_swapI (X : List Int) (x y : Int) (Y : List Int) (h0 : cl y ≠ 0) (h : cl y < cl x) : ord ((X ++ y :: x :: Y).map pt) = ord ((X ++ x :: y :: Y).map pt) := by
  have hy := cl_nonneg y
  simp only [List.map_append, List.map_cons]
  exact ord_swap _ _ (pt y) (pt x) h0 (by show cl x ≠ 0; omega) (by show cl y ≠ cl x; omega)

def Own (base : Nat) (v : Value) (n : Nat) (L Z : List Int) (w W : World) : Prop := Z.length = n ∧ W.ownsRow base 21 1 v n (Z.map (Value.int .i32)) ∧ ord (Z.map pt) = ord (L.map pt) ∧ Below base w W

set_option maxRecDepth 100000 in
set_option maxHeartbeats 4000000 in
theorem rorder_any (v : Value) (L : List Int) (w : World) (hlen : L.length ≤ 50000) (hv : U.SrcInts w v L) : Calls Try.prog 12 #[v] w fun e W' => Gives (ordI L) w e W' := by
  have HV := hid hv
  have hO := ordI_len L
  have HO := hid hO
  clear hv hO
  obtain ⟨n, hn⟩ : ∃ n, L.length = n := ⟨_, rfl⟩
  rw [hn] at hlen
  have HN := hid hn
  clear hn
  go_enter Try.func12, Try.ntmps12
  go_wp2_with ((at_builtin; refine U.wpList_append_ints rfl _ _ rfl w.heap.size (.slice none 0 0) 0 [] rfl (World.ownsRow_nil _ _ _ _) _ L rfl HV.out (by have := HN.out; omega) (Nat.le_refl _) ?_; intro v' w1 hown hgrow))
  have hB1 : Below w.heap.size w w1 := (Below.refl _ w).grown hgrow (Nat.le_refl _) (fun k e => by simp [Value.ownBlock] at e)
  obtain ⟨a, cap, rfl⟩ := own_sh hown
  have hown2 : w1.ownsRow w.heap.size 21 1 (.slice a n cap) n (L.map (Value.int .i32)) := by
    have := hown; rw [HN.out, Nat.zero_add] at this; simpa using this
  rw [HN.out, Nat.zero_add]
  have H1 : Hid (Own w.heap.size (.slice a n cap) n L L w w1) := ⟨HN.out, hown2, rfl, hB1⟩
  clear hown hgrow hB1 hown2 HV
  go_wp2_with fail
  go_loopw [4] (fun v4 wr => ∃ (ag : Bool) (Z : List Int), v4 = .bool ag ∧ Hid (Own w.heap.size (.slice a n cap) n L Z w wr) ∧ Hid (ag = false → inO (Z.map pt)))
    (fun v4 wr => 2 * mz (zrow wr (blk a) n) + bitOf v4)
  case atStart => exact ⟨true, L, rfl, H1, fun h => by cases h⟩
  case round =>
    obtain ⟨ag, Z, rfl, HS, HI⟩ := hrel
    clear H1
    cases ag with
    | false =>
      have HJ := hid (HI.out rfl)
      clear HI
      go_wp2
      go_ret
      have h := HS.out
      have hz : ordI L = Z := by
        unfold ordI; rw [← h.2.2.1, ord_id _ HJ.out, List.map_map]
        exact List.map_id' Z
      rw [hz]
      exact ⟨_, rfl, by rw [h.1]; exact h.2.1, h.2.2.2⟩
    | true =>
      clear HI
      go_wp2_with fail
      go_loopw [4, 5] (fun v4 i wq => ∃ (ag : Bool) (k : Nat) (Y : List Int), v4 = .bool ag ∧ i = .int .i64 (k + 1 : Nat) ∧ k ≤ n ∧ Hid (Own w.heap.size (.slice a n cap) n L Y w wq) ∧ Hid (mz Y ≤ mz Z) ∧ Hid (ag = true → mz Y < mz Z) ∧ Hid (ag = false → inO ((Y.take (k + 1)).map pt)))
        (fun _ i _ => n + 1 - (intOf i).toNat)
      case atStart => exact ⟨false, 0, Z, rfl, rfl, Nat.zero_le _, HS, Nat.le_refl _, (fun h => by cases h), fun _ => inO_one Z⟩
      case round =>
        obtain ⟨ag, k, Y, rfl, rfl, hk, HS2, HM, HT, HI⟩ := hrel
        by_cases hlt : k + 1 < n
        · obtain ⟨X, x, y, R, hY, hX⟩ := two_of HS2.out.1 hlt
          have hown := HS2.out.2.1
          obtain ⟨g, c', e, hg, hc⟩ := own_get hown HS2.out.1.symm (by omega)
          cases e
          have e0 := hc k (by omega)
          have e1 := hc (k + 1) hlt
          rw [hY, mid0 _ _ _ _ hX] at e0
          rw [hY, mid1 _ _ _ _ _ hX] at e1
          have HY := hid hY
          have HX := hid hX
          have jz : (k : Int) + 1 < (n : Int) := by omega
          have jz1 : (k : Int) < (n : Int) := by omega
          have j0 : (0 : Int) ≤ (k : Int) := by omega
          have j1 : (0 : Int) ≤ (k : Int) + 1 := by omega
          have je : ((k : Int) + 1).toNat = k + 1 := by omega
          have hne : Nonempty (Later wr) := ⟨⟨wr, Below.refl _ _⟩⟩
          have x0 : ∀ z : Later wr, z.W.cell? ⟨g, k, none⟩ = some (.int .i32 x) := fun z => (z.h.cell (p := ⟨g, k, none⟩) hg).trans e0
          have x1 : ∀ z : Later wr, z.W.cell? ⟨g, k + 1, none⟩ = some (.int .i32 y) := fun z => (z.h.cell (p := ⟨g, k + 1, none⟩) hg).trans e1
          have HCX : Hid (∀ W : World, Calls Try.prog 20 #[.int .i32 x] W fun e W' => e = .returned (.int .u8 (cl x)) ∧ Below W.heap.size W W') := fun W => rclass_any x W
          have HCY : Hid (∀ W : World, Calls Try.prog 20 #[.int .i32 y] W fun e W' => e = .returned (.int .u8 (cl y)) ∧ Below W.heap.size W W') := fun W => rclass_any y W
          obtain ⟨cx, hcx⟩ : ∃ cx, cl x = cx := ⟨_, rfl⟩
          obtain ⟨cy, hcy⟩ : ∃ cy, cl y = cy := ⟨_, rfl⟩
          rw [hcx] at HCX
          rw [hcy] at HCY
          have HKX := hid hcx
          have HKY := hid hcy
          clear hc e0 e1 hY hX hown hcx hcy
          go_wp2_with fail
          refine wp_region_quiet_in (by kernel_rfl) (by kernel_rfl) ?_
          repeat (go_big_quiet_step ((go_at_call 20; first | exact Later.call _ (HCX.out _) | exact Later.call _ (HCY.out _))))
          refine wpQuiet_nil ?_
          rintro _ ⟨z, rfl⟩
          have HSZ : Hid (Own w.heap.size (.slice (some ⟨g, 0, none⟩) n cap) n L Y w z.W) := ⟨HS2.out.1, ownsRow_below HS2.out.2.1 z.h (Nat.le_refl _), HS2.out.2.2.1, HS2.out.2.2.2.trans (z.h.mono HS2.out.2.2.2.size)⟩
          have y0 := x0 z
          have y1 := x1 z
          clear x0 x1 hne HCX HCY HS2
          generalize z.W = wz at HSZ y0 y1 ⊢
          by_cases hcy : cy = 0
          · have hz : (cy != 0) = false := by simpa using hcy
            have hz2 : (cy == 0) = true := by simpa using hcy
            have HC0 := hid hcy
            clear hcy y0 y1
            go_wp2
            go_roundw
            case rel => exact ⟨ag, k + 1, Y, rfl, by go_num, by omega, HSZ, HM, HT, fun h => by
              have h1 := HI.out h
              rw [HY.out, take1 _ _ _ _ _ HX.out] at h1
              rw [HY.out, take2 _ _ _ _ _ HX.out]
              exact inO_more h1 (.inl (by rw [HKY.out, HC0.out]))⟩
            case measure => simp [intOf] <;> omega
          · have hz : (cy != 0) = true := by simpa using hcy
            have hz2 : (cy == 0) = false := by simpa using hcy
            have HC0 := hid hcy
            clear hcy
            by_cases hgt : cy < cx
            · have HG := hid hgt
              have fr : ∀ j, wz.frozen? ⟨g, j, none⟩ = false := fun j => by
                rcases HSZ.out.2.1.2 with ⟨h, _⟩ | ⟨g', cap', cur, h, _, hg, _⟩
                · cases h
                · cases h; simp [World.frozen?, hg]
              have f0 := fr k
              have f1 := fr (k + 1)
              have hgw : w.heap.size ≤ g := (HSZ.out.2.1.lt g rfl).1
              have HGW := hid hgw
              clear fr hgw
              go_wp2_with fail
              go_region
              have st1 := HSZ.out.2.1.stored k (.int .i32 y)
              have st2 := st1.1.stored (k + 1) (.int .i32 x)
              have hbb := (HSZ.out.2.2.2.setCell (p := ⟨g, k, none⟩) HGW.out (.int .i32 y)).setCell (p := ⟨g, k + 1, none⟩) HGW.out (.int .i32 x)
              have hrw := st2.1
              rw [HY.out, swapZ _ _ _ _ _ HX.out] at hrw
              have HN2 : Hid (Own w.heap.size (.slice (some ⟨g, 0, none⟩) n cap) n L (X ++ y :: x :: R) w (((wz.setCell ⟨g, k, none⟩ (.int .i32 y)).setCell ⟨g, k + 1, none⟩ (.int .i32 x)).drew)) := ⟨by have h1 := HSZ.out.1; rw [HY.out] at h1; simp at h1 ⊢; exact h1, hrw.drew, by
                have h1 := HSZ.out.2.2.1
                rw [HY.out] at h1
                rw [← h1]
                exact ord_swapI X x y R (by rw [HKY.out]; exact HC0.out) (by rw [HKY.out, HKX.out]; exact HG.out), hbb.drew⟩
              have hmz : mz (X ++ y :: x :: R) < mz Y := by rw [HY.out]; exact mz_swap X x y R (by rw [HKY.out, HKX.out]; exact HG.out)
              have HLT : Hid (mz (X ++ y :: x :: R) < mz Z) := Nat.lt_of_lt_of_le hmz HM.out
              clear st1 st2 hbb hrw f0 f1 y0 y1 HSZ hmz
              generalize World.drew _ = wn at HN2 ⊢
              go_wp2
              go_roundw
              case rel => exact ⟨true, k + 1, X ++ y :: x :: R, rfl, by go_num, by omega, HN2, Nat.le_of_lt HLT.out, (fun _ => HLT.out), fun h => by cases h⟩
              case measure => simp [intOf] <;> omega
            · have HG := hid hgt
              clear y0 y1
              go_wp2
              go_roundw
              case rel => exact ⟨ag, k + 1, Y, rfl, by go_num, by omega, HSZ, HM, HT, fun h => by
                have h1 := HI.out h
                rw [HY.out, take1 _ _ _ _ _ HX.out] at h1
                rw [HY.out, take2 _ _ _ _ _ HX.out]
                exact inO_more h1 (.inr (by rw [HKY.out, HKX.out]; have := HG.out; omega))⟩
              case measure => simp [intOf] <;> omega
        · have hltz : ¬ (k : Int) + 1 < (n : Int) := by omega
          go_wp2
          go_roundw
          case rel => exact ⟨ag, Y, rfl, HS2, fun h => by have := HI.out h; rwa [List.take_of_length_le (by have := HS2.out.1; omega)] at this⟩
          case measure =>
            rw [zrow_of HS2.out.1 HS2.out.2.1, zrow_of HS.out.1 HS.out.2.1]
            have h1 := HM.out
            cases ag with
            | false => simp only [bitOf]; omega
            | true => have := HT.out rfl; simp only [bitOf]; omega
end Go.Proofs.Ytcgfbejcehiolaa
