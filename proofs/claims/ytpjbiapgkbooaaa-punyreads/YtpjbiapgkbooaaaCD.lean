/- slices.Insert of one code point, whole; whether a number is a scalar; what digits are read as; puny.Decode. -/
import Derived.Test.YtpjbiapgkbooaaaCC
import Derived.Test.YtpjbiapgkbooaaaCB
import Derived.Test.YtpjbiapgkbooaaaPC
namespace Go.Proofs.Ytpjbiapgkbooaaa
open Go.RowKit U
set_option linter.unusedVariables false

theorem own_of_rowIs {w : World} {base g n cap : Nat} {f : Nat → Value} {xs : List Value} (h : w.rowIs g 21 cap f) (hn : n ≤ cap) (hc : cap ≤ maxLen) (hb : base ≤ g) (hl : xs.length = n) (hx : ∀ j, j < n → xs[j]? = some (f j)) :
    w.ownsRow base 21 1 (.slice (some ⟨g, 0, none⟩) n cap) n xs := by
  obtain ⟨cur, h1, h2, h3⟩ := h
  refine ⟨by omega, .inr ⟨g, cap, cur, rfl, hb, h1, hn, hc, by omega, ?_⟩⟩
  rw [Nat.mul_one]
  apply List.ext_getElem?
  intro j
  rw [List.getElem?_take]
  by_cases hj : j < n
  · rw [if_pos hj, Array.getElem?_toList, h3 j (by omega), hx j hj]
  · rw [if_neg hj, List.getElem?_eq_none (by omega)]
theorem grown_set (g : Nat) : ∀ (vs : List Value) (o : Nat) (w : World), w.grownBy (w.setCells g o vs) (some g)
  | [], _, w => ⟨rfl, rfl, rfl, Nat.le_refl _, fun _ _ _ => rfl⟩
  | v :: r, o, w => by
    have h : w.grownBy (w.setCell ⟨g, o, none⟩ v) (some g) := ⟨rfl, rfl, rfl, (KeepsWalks.setCell w _ v).size, fun k _ hk => Below.heap_setCell _ _ _ k (fun e => hk (by rw [e]))⟩
    have k := grown_set g r (o + 1) (w.setCell ⟨g, o, none⟩ v)
    exact ⟨k.os.trans h.os, k.tape.trans h.tape, k.output.trans h.output, Nat.le_trans h.size k.size, fun i hi hr => (k.block i (Nat.lt_of_lt_of_le hi h.size) hr).trans (h.block i hi hr)⟩
theorem grown_same {a b c : World} {row : Option Nat} (h : a.grownBy b row) (k : b.grownBy c row) : a.grownBy c row :=
  ⟨k.os.trans h.os, k.tape.trans h.tape, k.output.trans h.output, Nat.le_trans h.size k.size, fun i hi hr => (k.block i (Nat.lt_of_lt_of_le hi h.size) hr).trans (h.block i hi hr)⟩
theorem put_get (cs : List Value) (x : Value) (i n j : Nat) (hl : cs.length = n) (hi : i ≤ n) (hj : j < n + 1) :
    (cs.take i ++ x :: cs.drop i)[j]? = some (if j < i then cs[j]?.getD default else if j = i then x else cs[j - 1]?.getD default) := by
  have ht : (cs.take i).length = i := by rw [List.length_take]; omega
  by_cases h1 : j < i
  · rw [if_pos h1, List.getElem?_append_left (by omega), List.getElem?_take, if_pos h1, List.getElem?_eq_getElem (by omega)]; rfl
  · rw [if_neg h1, List.getElem?_append_right (by omega), ht]
    by_cases h2 : j = i
    · rw [if_pos h2, h2, Nat.sub_self]; rfl
    · rw [if_neg h2, show j - i = (j - i - 1) + 1 by omega, List.getElem?_cons_succ, List.getElem?_drop, show i + (j - i - 1) = j - 1 by omega, List.getElem?_eq_getElem (by omega)]; rfl

set_option maxHeartbeats 1000000 in
theorem insert_end (base : Nat) (a : Option Addr) (n c vb : Nat) (zs : List Int) (x : Int) (w : World) (hl : zs.length = n) (hn : n ≤ 1000000) (hrow : w.ownsRow base 21 1 (.slice a n c) n (zs.map (Value.int .i32))) (hb : base ≤ w.heap.size) (hx : Boxed w vb 21 (.int .i32 x)) :
    Calls Try.prog 35 #[.slice a n c, .int .i64 n, .slice (some ⟨vb, 0, none⟩) 1 1] w fun e w' => ∃ v', e = .returned v' ∧ w'.ownsRow base 21 1 v' (n + 1) ((zs ++ [x]).map (Value.int .i32)) ∧ w.grownBy w' (Value.slice a n c).ownBlock := by
  have hs : SrcInts w (.slice (some ⟨vb, 0, none⟩) 1 1) [x] := .inr ⟨⟨vb, 0, none⟩, 1, rfl, fun j hj => by
    obtain rfl : j = 0 := by simp at hj; exact hj
    rw [Addr.add_lit]; exact hx.cell⟩
  rcases hrow.2 with ⟨e, h0⟩ | ⟨g, cap, cur, e, hbg, hgb, hnc, hcm, _⟩
  · cases e
    have H := hid' hrow
    go_enter Try.func35, Try.ntmps35
    go_wp2_with (at_builtin; refine wpList_append_ints rfl _ _ rfl base _ 0 zs rfl H.out _ [x] rfl hs (by simp only [List.length_cons, List.length_nil]; omega) hb ?_; intro v' w1 r1 g1)
    go_ret
    exact ⟨v', rfl, by simpa using r1, g1⟩
  · cases e
    unfold maxLen at hcm
    have H := hid' hrow
    clear hrow hgb
    go_enter Try.func35, Try.ntmps35
    go_wp2_with (at_builtin; refine wpList_append_ints rfl _ _ rfl base _ n zs rfl H.out _ [x] rfl hs (by simp only [List.length_cons, List.length_nil]; omega) hb ?_; intro v' w1 r1 g1)
    all_goals (go_ret; exact ⟨_, rfl, by simpa using (by assumption : World.ownsRow _ _ _ _ _ _ ((zs ++ [x]).map (Value.int .i32))), by assumption⟩)

/-- One code point put at a place of a row of the call's own. -/
theorem insert_any (base : Nat) (v : Value) (zs : List Int) (i vb : Nat) (x : Int) (w : World) (hi : i ≤ zs.length) (hn : zs.length ≤ 1000000) (hrow : w.ownsRow base 21 1 v zs.length (zs.map (Value.int .i32))) (hb : base ≤ w.heap.size)
    (hx : Boxed w vb 21 (.int .i32 x)) (hvb : some vb ≠ v.ownBlock) :
    Calls Try.prog 35 #[v, .int .i64 i, .slice (some ⟨vb, 0, none⟩) 1 1] w fun e w' => ∃ v', e = .returned v' ∧ w'.ownsRow base 21 1 v' (zs.length + 1) ((zs.take i ++ x :: zs.drop i).map (Value.int .i32)) ∧ w.grownBy w' v.ownBlock := by
  by_cases hin : i = zs.length
  · subst hin
    obtain ⟨a, c, rfl⟩ : ∃ a c, v = .slice a zs.length c := by
      rcases hrow.2 with ⟨rfl, h0⟩ | ⟨g, cap, cur, rfl, _⟩
      · exact ⟨none, 0, by rw [h0]⟩
      · exact ⟨_, cap, rfl⟩
    rw [List.take_length, List.drop_length]
    exact insert_end base a _ c vb zs x w rfl hn hrow hb hx
  · have hlt : i < zs.length := by omega
    have hrow0 := hrow
    rcases hrow.2 with ⟨rfl, h0⟩ | ⟨g, cap, cur, rfl, hbg, hgb, hnc, hcm, hcs, hct⟩
    · omega
    · rw [Nat.mul_one] at hcs hct
      have hcur : ∀ j, j < zs.length → cur[j]? = some (.int .i32 (zs[j]?.getD 0)) := fun j hj => by
        have := congrArg (fun l => l[j]?) hct
        simp only [List.getElem?_take, if_pos hj, List.getElem?_map, Array.getElem?_toList] at this
        rw [this, List.getElem?_eq_getElem hj]; rfl
      have R : w.rowIs g 21 cap (fun j => cur[j]?.getD default) := ⟨cur, hgb, hcs, fun j hj => by show _ = some (cur[j]?.getD default); rw [Array.getElem?_eq_getElem (by omega)]; rfl⟩
      have hF : ∀ j v, (zs.map (Value.int .i32))[j]? = some v → cur[j]?.getD default = v := fun j v hj => by
        have hjl := (List.getElem?_eq_some_iff.1 hj).1
        rw [List.length_map] at hjl
        rw [hcur j hjl]
        rw [List.getElem?_map, List.getElem?_eq_getElem hjl] at hj
        rw [List.getElem?_eq_getElem hjl]
        simpa using hj
      have hone : ∀ v ∈ zs.map (Value.int .i32), v.oneCell' = true := fun v hv => by
        obtain ⟨z, _, rfl⟩ := List.mem_map.1 hv
        rfl
      have hml : (zs.map (Value.int .i32)).length = zs.length := List.length_map ..
      have hmap : (zs.take i ++ x :: zs.drop i).map (Value.int .i32) = (zs.map (Value.int .i32)).take i ++ .int .i32 x :: (zs.map (Value.int .i32)).drop i := by simp [List.map_take, List.map_drop]
      have hgv : vb ≠ g := fun e => hvb (by rw [e]; rfl)
      unfold maxLen at hcm
      by_cases hroom : zs.length + 1 ≤ cap
      · refine (insert_room g zs.length cap i vb (zs.map (Value.int .i32)) (.int .i32 x) _ w hlt hroom (by omega) hgv hml R hF hx hone rfl).mono ?_
        rintro e w' ⟨rfl, rfl⟩
        refine ⟨_, rfl, ?_, ?_⟩
        · have R2 := rowIs_setCells [.int .i32 x] i _ _ (rowIs_setCells ((zs.map (Value.int .i32)).drop i) (i + 1) w.drew _ R.drew)
          rw [hmap]
          refine own_of_rowIs R2 hroom (by unfold maxLen; omega) hbg (by simp; omega) (fun j hj => ?_)
          rw [put_get _ _ i zs.length j hml (by omega) hj]
          congr 1
          by_cases h1 : j < i
          · rw [if_pos h1, if_neg (by omega), if_neg (by omega)]
            exact (hF j _ (by rw [List.getElem?_eq_getElem (by omega)]; rfl)).symm
          · rw [if_neg h1]
            by_cases h2 : j = i
            · rw [if_pos h2, if_pos (by simp; omega), h2, Nat.sub_self]; rfl
            · rw [if_neg h2, if_neg (by simp; omega), if_pos (by simp; omega), List.getElem?_drop, show i + (j - (i + 1)) = j - 1 by omega]
        · exact grown_same (grown_same (b := w.drew) ⟨rfl, rfl, rfl, Nat.le_refl _, fun _ _ _ => rfl⟩ (grown_set g _ _ w.drew)) (grown_set g _ _ _)
      · refine (insert_grow g zs.length cap i vb (zs.map (Value.int .i32)) (.int .i32 x) _ w hlt hnc (by omega) hn hml R hF hx hone rfl).mono ?_
        rintro e w' ⟨G, ROW, hG, hG63, hRs, hRt, rfl, rfl⟩
        refine ⟨_, rfl, ?_, ?_⟩
        · have R1 : (w.alloc (.cells ROW 21)).drew.rowIs w.heap.size 21 G (fun j => ROW[j]?.getD default) := by
            have := World.rowIs_alloc w ROW 21 (fun j => ROW[j]?.getD default) (fun j hj => by rw [Array.getElem?_eq_getElem hj]; rfl)
            rw [hRs] at this
            exact this.drew
          have R2 := rowIs_setCells ((zs.map (Value.int .i32)).drop i) (i + 1) _ _ (rowIs_setCells [.int .i32 x] i _ _ R1).drew
          rw [hmap]
          refine own_of_rowIs R2 hG (by unfold maxLen; omega) (by omega) (by simp; omega) (fun j hj => ?_)
          rw [put_get _ _ i zs.length j hml (by omega) hj]
          congr 1
          by_cases h1 : j < i
          · rw [if_pos h1, if_neg (by omega), if_neg (by omega)]
            have := congrArg (fun l => l[j]?) hRt
            simp only [List.getElem?_take, if_pos h1, Array.getElem?_toList] at this
            rw [this]
          · rw [if_neg h1]
            by_cases h2 : j = i
            · rw [if_pos h2, if_neg (by omega), if_pos (by simp; omega), h2, Nat.sub_self]; rfl
            · rw [if_neg h2, if_pos (by simp; omega), List.getElem?_drop, show i + (j - (i + 1)) = j - 1 by omega]
        · have g0 := World.grownBy_alloc w (.cells ROW 21) none
          have g1 : w.grownBy (w.alloc (.cells ROW 21)).drew none := ⟨g0.os, g0.tape, g0.output, g0.size, g0.block⟩
          have s1 := grown_set w.heap.size [.int .i32 x] i (w.alloc (.cells ROW 21)).drew
          have s2 := grown_set w.heap.size ((zs.map (Value.int .i32)).drop i) (i + 1) ((w.alloc (.cells ROW 21)).drew.setCells w.heap.size i [.int .i32 x]).drew
          refine ⟨s2.os.trans (s1.os.trans g1.os), s2.tape.trans (s1.tape.trans g1.tape), s2.output.trans (s1.output.trans g1.output), Nat.le_trans g1.size (Nat.le_trans s1.size s2.size), fun k hk hr => ?_⟩
          have hne : some k ≠ some w.heap.size := by intro e; cases e; omega
          exact (s2.block k (Nat.lt_of_lt_of_le hk (Nat.le_trans g1.size s1.size)) hne).trans ((s1.block k (Nat.lt_of_lt_of_le hk g1.size) hne).trans (g1.block k hk (by simp)))
end Go.Proofs.Ytpjbiapgkbooaaa
