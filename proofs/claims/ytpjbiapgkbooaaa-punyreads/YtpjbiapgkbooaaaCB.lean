/- The closures by which digits are taken; one number, read. -/
import Derived.Test.YtpjbiapgkbooaaaCA
import Derived.RangeFuncBox
import Derived.Laws.ResultCell
import Derived.Laws.EntriesVeiled
namespace Go.Proofs.Ytpjbiapgkbooaaa
open Go.RowKit U
set_option linter.unusedVariables false

/-- What the two closures hold: the text that is left, and the one that asks whether there is any. -/
structure Rdr (base : Nat) (w : World) (Bs Bl : Nat) (s : ByteArray) : Prop where
  s : Boxed w Bs 9 (.string s)
  l : Boxed w Bl 23 (.func (.func 42) #[] #[.pointer (some ⟨Bs, 0, none⟩)])
  hs : base ≤ Bs
def nextF (Bs Bl : Nat) : Value := .func (.func 43) #[] #[.pointer (some ⟨Bl, 0, none⟩), .pointer (some ⟨Bs, 0, none⟩)]
def leftF (Bs : Nat) : Value := .func (.func 42) #[] #[.pointer (some ⟨Bs, 0, none⟩)]

theorem Rdr.below {base b' : Nat} {w w' : World} {Bs Bl : Nat} {s : ByteArray} (h : Rdr base w Bs Bl s) (hb : Below b' w w') (hB : w.heap.size ≤ b') : Rdr base w' Bs Bl s :=
  ⟨(hb.block Bs (Nat.lt_of_lt_of_le h.s.lt hB)).trans h.s, (hb.block Bl (Nat.lt_of_lt_of_le h.l.lt hB)).trans h.l, h.hs⟩

theorem boxed_ne' {W : World} {B C : Nat} {t u : TypeId} {x y : Value} (h : Boxed W B t x) (k : Boxed W C u y) (hne : t ≠ u) : B ≠ C := by
  intro e
  unfold Boxed at h k
  rw [e, k] at h
  simp at h
  exact hne h.2.symm
theorem leftc_any (base : Nat) (w : World) (Bs Bl : Nat) (s : ByteArray) (h : Rdr base w Bs Bl s) :
    Calls Try.prog 42 #[.pointer (some ⟨Bs, 0, none⟩)] w fun e w' => e = .returned (.bool (decide (0 < s.size))) ∧ w' = w := by
  have c := h.s.cell
  clear h
  go_enter Try.func42, Try.ntmps42
  go_wp2
  go_ret
  exact ⟨rfl, rfl⟩

set_option maxHeartbeats 1000000 in
theorem next_none (base : Nat) (w : World) (Bs Bl : Nat) (s : ByteArray) (h : Rdr base w Bs Bl s) (h0 : s.size = 0) :
    Calls Try.prog 43 #[.pointer (some ⟨Bl, 0, none⟩), .pointer (some ⟨Bs, 0, none⟩)] w fun e w' => e = .returned (.tuple #[.int .i64 0, .bool false]) ∧ w' = w := by
  have c := h.s.cell
  have d := h.l.cell
  have hd : decide (0 < s.size) = false := by rw [h0]; rfl
  have H := hid' h
  clear h
  go_enter Try.func43, Try.ntmps43
  go_wp2_with (go_at_call 42; refine (leftc_any base _ Bs Bl s H.out).mono ?_; rw [hd]; rintro e w' ⟨rfl, rfl⟩)
  go_ret2
  exact ⟨rfl, rfl⟩

/-- What the next sign tells. -/
def told (c : Int) : Value := match dg c with | some d => .tuple #[.int .i64 d, .bool true] | none => .tuple #[.int .i64 0, .bool false]
set_option maxHeartbeats 2000000 in
theorem next_some (base : Nat) (w : World) (Bs Bl : Nat) (s : ByteArray) (hsz : s.size ≤ 1024) (h : Rdr base w Bs Bl s) (h0 : 0 < s.size) :
    Calls Try.prog 43 #[.pointer (some ⟨Bl, 0, none⟩), .pointer (some ⟨Bs, 0, none⟩)] w fun e w' => e = .returned (told (s[0].toNat : Int)) ∧ Rdr base w' Bs Bl (s.extract 1 s.size) ∧ w.grownBy w' (some Bs) := by
  have c := h.s.cell
  have f := h.s.frozen
  have d := h.l.cell
  have hd : decide (0 < s.size) = true := by simpa using h0
  have hne := boxed_ne' h.l h.s (by decide)
  have R : Rdr base (w.setCell ⟨Bs, 0, none⟩ (.string (s.extract 1 s.size))) Bs Bl (s.extract 1 s.size) := ⟨h.s.set _, h.l.kept (grownBy_setCell' w Bs _) (by simpa using hne), h.hs⟩
  have BB : w.grownBy (w.setCell ⟨Bs, 0, none⟩ (.string (s.extract 1 s.size))) (some Bs) := grownBy_setCell' w Bs _
  have H := hid' h
  have hx0 : (0 : Int) ≤ (s[0].toNat : Int) := by omega
  have hx1 : (s[0].toNat : Int) ≤ 255 := by have := s[0].toNat_lt; omega
  clear h
  go_enter Try.func43, Try.ntmps43
  unfold told
  cases hg : dg (s[0].toNat : Int) with
  | none =>
    have HG := hid' hg
    clear hg
    go_wp2_with (first
      | (go_at_call 42; refine (leftc_any base _ Bs Bl s H.out).mono ?_; rw [hd]; rintro e w' ⟨rfl, rfl⟩)
      | (go_at_call 44; refine (digit_none _ hx0 hx1 HG.out _).mono ?_; rintro e w' ⟨rfl, rfl⟩))
    go_ret2
    exact ⟨rfl, R, BB⟩
  | some dd =>
    have HG := hid' hg
    clear hg
    go_wp2_with (first
      | (go_at_call 42; refine (leftc_any base _ Bs Bl s H.out).mono ?_; rw [hd]; rintro e w' ⟨rfl, rfl⟩)
      | (go_at_call 44; refine (digit_some _ dd HG.out _).mono ?_; rintro e w' ⟨rfl, rfl⟩))
    go_ret2
    exact ⟨rfl, R, BB⟩

set_option maxHeartbeats 1000000 in
theorem reader_any (s : ByteArray) (w : World) :
    Calls Try.prog 32 #[.string s] w fun e w' => ∃ Bs Bl, e = .returned (.tuple #[leftF Bs, nextF Bs Bl]) ∧ Rdr w.heap.size w' Bs Bl s ∧ Below w.heap.size w w' := by
  have b1 := Boxed.new w 9 (.string s)
  have b2 := Boxed.new (w.alloc (.cells #[.string s] 9)) 23 .nilFunc
  have e1 : (w.alloc (.cells #[.string s] 9)).heap.size = w.heap.size + 1 := by simp
  rw [e1] at b2
  have c2 := b2.cell
  have f2 := b2.frozen
  go_enter Try.func32, Try.ntmps32
  have b3 := Boxed.new (w.alloc (.cells #[.string s] 9)) 23 (.func (.func 42) #[] #[.pointer (some ⟨w.heap.size, 0, none⟩)])
  rw [e1] at b3
  have H3 := hid' b3
  clear b3 e1 b1 b2
  go_wp2
  have c3 := H3.out.cell
  refine bodyPost_ret (v := .tuple #[leftF w.heap.size, nextF w.heap.size (w.heap.size + 1)]) ?_ rfl ⟨_, _, rfl, ⟨(Boxed.new w 9 (.string s)).alloc _, H3.out, Nat.le_refl _⟩, ((Below.refl _ w).alloc (Nat.le_refl _) _).alloc (by simp) _⟩
  rw [results_cell_tmp (p := 2) (u := 3) (ty := 23) rfl]
  have hl : (loadVar 23 ⟨w.heap.size + 1, 0, none⟩).run Try.prog ((w.alloc (.cells #[.string s] 9)).alloc (.cells #[.func (.func 42) #[] #[.pointer (some ⟨w.heap.size, 0, none⟩)]] 23)) = .ok (leftF w.heap.size) ((w.alloc (.cells #[.string s] 9)).alloc (.cells #[.func (.func 42) #[] #[.pointer (some ⟨w.heap.size, 0, none⟩)]] 23)) := by
    unfold leftF
    go_simp
  simp [asAddr, Result.andThen, hl, nextF]

theorem grown_tr {a b c : World} {row : Option Nat} (h : a.grownBy b row) (k : b.grownBy c row) : a.grownBy c row :=
  ⟨k.os.trans h.os, k.tape.trans h.tape, k.output.trans h.output, Nat.le_trans h.size k.size, fun i hi hr => (k.block i (Nat.lt_of_lt_of_le hi h.size) hr).trans (h.block i hi hr)⟩
/-- How much text is left. -/
def sizeAt (w : World) (B : Nat) : Nat := match w.cell? ⟨B, 0, none⟩ with | some (.string s) => s.size | _ => 0
theorem sizeAt_of {w : World} {B : Nat} {s : ByteArray} (h : Boxed w B 9 (.string s)) : sizeAt w B = s.size := by unfold sizeAt; rw [h.cell]
theorem rn_nil (b k i w : Nat) : rn b k i w [] = none := rfl
theorem rn_bad (b k i w : Nat) (c : Int) (cs : List Int) (h : dg c = none) : rn b k i w (c :: cs) = none := by rw [rn, h]
theorem rn_big (b k i w d : Nat) (c : Int) (cs : List Int) (h : dg c = some d) (h1 : 2147483647 < i + d * w) : rn b k i w (c :: cs) = none := by rw [rn, h]; simp [h1]
theorem rn_end (b k i w d : Nat) (c : Int) (cs : List Int) (h : dg c = some d) (h1 : ¬ 2147483647 < i + d * w) (h2 : d < thr k b) : rn b k i w (c :: cs) = some (i + d * w, cs) := by rw [rn, h]; simp [h1, h2]
theorem rn_wide (b k i w d : Nat) (c : Int) (cs : List Int) (h : dg c = some d) (h1 : ¬ 2147483647 < i + d * w) (h2 : ¬ d < thr k b) (h3 : 2147483647 < w * (36 - thr k b)) : rn b k i w (c :: cs) = none := by rw [rn, h]; simp [h1, h2, h3]
theorem rn_on (b k i w d : Nat) (c : Int) (cs : List Int) (h : dg c = some d) (h1 : ¬ 2147483647 < i + d * w) (h2 : ¬ d < thr k b) (h3 : ¬ 2147483647 < w * (36 - thr k b)) : rn b k i w (c :: cs) = rn b (k + 36) (i + d * w) (w * (36 - thr k b)) cs := by rw [rn, h]; simp only; rw [if_neg h1, if_neg h2, if_neg h3]
theorem bn_tail (s : ByteArray) (h : 0 < s.size) : bn s = (s[0].toNat : Int) :: bn (s.extract 1 s.size) := by
  rw [bn_extract s 1 s.size (Nat.le_refl _), List.take_of_length_le (by rw [List.length_drop, bn_length]; exact Nat.le_refl _)]
  exact bn_cons s h

/-- What readNumber answers. -/
def NumR (o : Option (Nat × List Int)) (e : Ending) (base : Nat) (w' : World) (Bs Bl : Nat) : Prop :=
  match o with
  | none => e = .returned (.tuple #[.int .i64 0, .bool false]) ∧ ∃ s', Rdr base w' Bs Bl s'
  | some (j, rest) => e = .returned (.tuple #[.int .i64 j, .bool true]) ∧ ∃ s', Rdr base w' Bs Bl s' ∧ bn s' = rest ∧ s'.size ≤ 1024

set_option maxRecDepth 100000 in
set_option maxHeartbeats 4000000 in
theorem number_any (base : Nat) (w : World) (Bs Bl i b : Nat) (s : ByteArray) (hsz : s.size ≤ 1024) (hi : i ≤ 2147483647) (hb : b ≤ 1000000000000) (h : Rdr base w Bs Bl s) :
    Calls Try.prog 33 #[.int .i64 i, .int .i64 b, nextF Bs Bl] w fun e w' => NumR (rn b 36 i 1 (bn s)) e base w' Bs Bl ∧ w.grownBy w' (some Bs) := by
  have H := hid' h
  clear h
  unfold nextF
  go_enter Try.func33, Try.ntmps33
  go_wp2_with fail
  go_loopw [0, 8, 9] (fun vi vw vk wr => ∃ (I W K : Nat) (t : ByteArray), vi = .int .i64 I ∧ vw = .int .i64 W ∧ vk = .int .i64 K ∧ I ≤ 2147483647 ∧ W ≤ 2147483647 ∧ K + 36 * t.size ≤ 36 + 36 * s.size ∧ t.size ≤ s.size ∧ Hid (rn b 36 i 1 (bn s) = rn b K I W (bn t)) ∧ Hid (Rdr base wr Bs Bl t) ∧ w.grownBy wr (some Bs))
    (fun _ _ _ wr => sizeAt wr Bs)
  case atStart => exact ⟨i, 1, 36, s, rfl, rfl, rfl, hi, by omega, by omega, Nat.le_refl _, rfl, H, ⟨rfl, rfl, rfl, Nat.le_refl _, fun _ _ _ => rfl⟩⟩
  case round =>
    obtain ⟨I, W, K, t, rfl, rfl, rfl, h1, h2, h3, h3', h4, h5, hB⟩ := hrel
    by_cases ht : t.size = 0
    · have HN : Hid (rn b 36 i 1 (bn s) = none) := by
        show _ = _
        rw [h4.out, show bn t = [] from List.eq_nil_of_length_eq_zero (by rw [bn_length]; exact ht), rn_nil]
      go_wp2_with (go_at_call 43; refine (next_none base _ Bs Bl t h5.out ht).mono ?_; rintro e w' ⟨rfl, rfl⟩)
      go_ret2
      rw [HN.out]
      exact ⟨⟨rfl, t, h5.out⟩, hB⟩
    · have ht0 : 0 < t.size := by omega
      have HB := hid' (bn_tail t ht0)
      have hes : (t.extract 1 t.size).size = t.size - 1 := by rw [ByteArray.size_extract]; omega
      have HN := hid' (next_some base wr Bs Bl t (by omega) h5.out ht0)
      have HSZ := hid' (sizeAt_of h5.out.s)
      obtain ⟨c, hc⟩ : ∃ c, c = (t[0].toNat : Int) := ⟨_, rfl⟩
      rw [← hc] at HB HN
      clear hc
      obtain ⟨t', ht'⟩ : ∃ t', t' = t.extract 1 t.size := ⟨_, rfl⟩
      rw [← ht'] at HB HN hes
      clear ht'
      have HR : Hid (rn b 36 i 1 (bn s) = rn b K I W (c :: bn t')) := by
        show _ = _
        rw [h4.out, HB.out]
      clear h4
      cases hg : dg c with
      | none =>
        have HG := hid' hg
        have HT : Hid (told c = .tuple #[.int .i64 0, .bool false]) := by show _ = _; rw [told, hg]
        clear hg
        go_wp2_with fail
        refine HN.out.mono ?_
        rw [HT.out]
        rintro e w' ⟨rfl, hr, hbl⟩
        go_wp2
        go_ret2
        rw [HR.out, rn_bad _ _ _ _ _ _ HG.out]
        exact ⟨⟨rfl, _, hr⟩, grown_tr hB hbl⟩
      | some d =>
        have HG := hid' hg
        have HT : Hid (told c = .tuple #[.int .i64 d, .bool true]) := by show _ = _; rw [told, hg]
        have hd := (sgn_of c d hg).2
        clear hg
        have t1 := thr_lo K b
        have t2 := thr_hi K b
        obtain ⟨u, hu⟩ : ∃ u, thr K b = u := ⟨_, rfl⟩
        have HU := hid' hu
        rw [hu] at t1 t2
        clear hu
        have p1 : d * W ≤ 35 * 2147483647 := Nat.mul_le_mul (by omega) h2
        have p2 : W * (36 - u) ≤ 2147483647 * 35 := Nat.mul_le_mul h2 (by omega)
        obtain ⟨X, hX⟩ : ∃ X, d * W = X := ⟨_, rfl⟩
        obtain ⟨Y, hY⟩ : ∃ Y, W * (36 - u) = Y := ⟨_, rfl⟩
        have eX : (d : Int) * (W : Int) = (X : Int) := by rw [← hX]; push_cast; rfl
        have eY : (W : Int) * (36 - (u : Int)) = (Y : Int) := by rw [← hY]; push_cast [Int.ofNat_sub (show u ≤ 36 by omega)]; rfl
        have HX := hid' hX
        have HY := hid' hY
        rw [hX] at p1
        rw [hY] at p2
        clear hX hY
        have fin : ∀ w', Hid (Rdr base w' Bs Bl t') → True → True := fun _ _ _ => trivial
        by_cases q1 : 2147483647 < I + X
        · go_wp2_with fail
          refine HN.out.mono ?_
          rw [HT.out]
          rintro e w' ⟨rfl, hr, hbl⟩
          go_wp2
          go_ret2
          rw [HR.out, rn_big _ _ _ _ d _ _ HG.out (by rw [HX.out]; exact q1)]
          exact ⟨⟨rfl, _, hr⟩, grown_tr hB hbl⟩
        · by_cases q2 : d < u
          · go_wp2_with fail
            refine HN.out.mono ?_
            rw [HT.out]
            rintro e w' ⟨rfl, hr, hbl⟩
            go_wp2_with (go_at_call 39; refine (thr_any K b (by omega) (by omega) _).mono ?_; rw [HU.out]; rintro e w1 ⟨rfl, rfl⟩)
            go_ret2
            rw [HR.out, rn_end _ _ _ _ d _ _ HG.out (by rw [HX.out]; exact q1) (by rw [HU.out]; exact q2), HX.out]
            exact ⟨⟨rfl, _, hr, rfl, by omega⟩, grown_tr hB hbl⟩
          · by_cases q3 : 2147483647 < Y
            · go_wp2_with fail
              refine HN.out.mono ?_
              rw [HT.out]
              rintro e w' ⟨rfl, hr, hbl⟩
              go_wp2_with (go_at_call 39; refine (thr_any K b (by omega) (by omega) _).mono ?_; rw [HU.out]; rintro e w1 ⟨rfl, rfl⟩)
              go_ret2
              rw [HR.out, rn_wide _ _ _ _ d _ _ HG.out (by rw [HX.out]; exact q1) (by rw [HU.out]; exact q2) (by rw [HU.out, HY.out]; exact q3)]
              exact ⟨⟨rfl, _, hr⟩, grown_tr hB hbl⟩
            · go_wp2_with fail
              refine HN.out.mono ?_
              rw [HT.out]
              rintro e w' ⟨rfl, hr, hbl⟩
              have HRr := hid' hr
              clear hr
              go_wp2_with (go_at_call 39; refine (thr_any K b (by omega) (by omega) _).mono ?_; rw [HU.out]; rintro e w1 ⟨rfl, rfl⟩)
              go_roundw
              case rel =>
                refine ⟨I + X, Y, K + 36, t', by first | rfl | go_num, by first | rfl | go_num, by go_num, by omega, by omega, by omega, by omega, ?_, HRr, grown_tr hB hbl⟩
                show _ = _
                rw [HR.out, rn_on _ _ _ _ d _ _ HG.out (by rw [HX.out]; exact q1) (by rw [HU.out]; exact q2) (by rw [HU.out, HY.out]; exact q3), HX.out, HU.out, HY.out]
              case measure =>
                rw [sizeAt_of HRr.out.s, HSZ.out]; omega
end Go.Proofs.Ytpjbiapgkbooaaa
