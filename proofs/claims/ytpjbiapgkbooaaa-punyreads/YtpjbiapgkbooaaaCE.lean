/- Whether a number is a scalar; what digits are read as; the contract of puny.Decode. -/
import Derived.Test.YtpjbiapgkbooaaaCD
namespace Go.Proofs.Ytpjbiapgkbooaaa
open Go.RowKit U
set_option linter.unusedVariables false

theorem scal_big (n : Int) (h : 1114111 < n) : scal n = false := by unfold scal; simp; omega
set_option maxRecDepth 100000 in
set_option maxHeartbeats 1000000 in
theorem isScal_any (n : Int) (h0 : 0 ≤ n) (h1 : n ≤ 1099511627776) (w : World) :
    Calls Try.prog 34 #[.int .i64 n] w fun e W' => e = .returned (.bool (scal n)) ∧ Below w.heap.size w W' := by
  go_enter Try.func34, Try.ntmps34
  by_cases hb : 1114111 < n
  · have HS := hid' (scal_big n hb)
    go_wp2
    go_ret
    rw [HS.out]
    exact ⟨rfl, Below.refl _ _⟩
  · have hI : IntsAt (w.alloc (.cells #[.int .i32 n] 21)) (.slice (some ⟨w.heap.size, 0, none⟩) 1 1) [n] := by
      refine .inr ⟨by simp, _, _, _, rfl, fun j hj => ?_⟩
      obtain rfl : j = 0 := by simp at hj; exact hj
      exact (Boxed.new w 21 (.int .i32 n)).cell
    have HI := hid' hI
    clear hI
    go_wp2_with (go_at_call 16; refine (encode_any _ [n] (by simp) _ HI.out).mono ?_; rintro e w1 ⟨⟨t, r, rfl, hr⟩, B1⟩)
    have B2 : Below w.heap.size w w1 := ((Below.refl _ w).alloc (Nat.le_refl _) (.cells #[.int .i32 n] 21)).trans (B1.mono (by simp))
    rcases hr with ⟨q1, rfl, q3⟩ | ⟨q1, rfl, q3⟩
    · have HQ : Hid (scal n = true) := by show _ = _; simpa using q1
      clear q1 q3
      go_wp2
      go_ret
      rw [HQ.out]
      exact ⟨rfl, B2⟩
    · have HQ : Hid (scal n = false) := by show _ = _; simpa using q1
      clear q1 q3
      go_wp2
      go_ret
      rw [HQ.out]
      exact ⟨rfl, B2⟩

theorem step_eq (s : St) (j : Nat) (h : s.i ≤ j) : s.step (j - s.i) = ⟨s.n + ((j / (s.pts.length + 1) : Nat) : Int), j % (s.pts.length + 1) + 1, s.pts.take (j % (s.pts.length + 1)) ++ (s.n + ((j / (s.pts.length + 1) : Nat) : Int)) :: s.pts.drop (j % (s.pts.length + 1))⟩ := by
  unfold St.step
  rw [show s.i + (j - s.i) = j by omega]

/-- What read answers. -/
def ReadR (o : Option (List Int)) (e : Ending) (base : Nat) (w' : World) : Prop :=
  match o with
  | none => e = .returned (.tuple #[.slice none 0 0, .bool false])
  | some pts => ∃ v', e = .returned (.tuple #[v', .bool true]) ∧ w'.ownsRow base 21 1 v' pts.length (pts.map (Value.int .i32))
/-- Where the reading stands. -/
structure Rs (base : Nat) (w wr : World) (Bs Bl : Nat) (o : Option (List Int)) (v : Value) (n : Int) (i p b : Nat) (pts : List Int) (t : ByteArray) : Prop where
  row : wr.ownsRow base 21 1 v p (pts.map (Value.int .i32))
  len : pts.length = p
  rdr : Rdr base wr Bs Bl t
  eq : o = RD ⟨n, i, pts⟩ b (bn t)
  be : Below base w wr
theorem own_sh21 {base n : Nat} {v : Value} {X : List Value} {W : World} (h : W.ownsRow base 21 1 v n X) : ∃ a cap, v = .slice a n cap := by
  rcases h.2 with ⟨rfl, h0⟩ | ⟨g, cap, cur, rfl, _⟩
  · exact ⟨none, 0, by rw [h0]⟩
  · exact ⟨_, cap, rfl⟩

theorem below_gr {base Bs : Nat} {w wr w2 : World} (hB : Below base w wr) (hg : wr.grownBy w2 (some Bs)) (hs : base ≤ Bs) (hz : base ≤ wr.heap.size) : Below base w w2 :=
  hB.grown hg hz (fun j ej => by cases ej; exact hs)
theorem Rdr.kept {base base' : Nat} {w w' : World} {Bs Bl : Nat} {s : ByteArray} {v : Value} {n : Nat} {X : List Value} (h : Rdr base w Bs Bl s) (hrow : w.ownsRow base' 21 1 v n X) (hg : w.grownBy w' v.ownBlock) : Rdr base w' Bs Bl s :=
  ⟨h.s.kept hg (h.s.not_row (by decide) hrow), h.l.kept hg (h.l.not_row (by decide) hrow), h.hs⟩
theorem own_sz {w w' : World} {base : Nat} (h : Below base w w') (hb : base ≤ w.heap.size) : base ≤ w'.heap.size := Nat.le_trans hb h.size

set_option maxRecDepth 100000 in
set_option maxHeartbeats 8000000 in
theorem read_any (base : Nat) (a0 : Option Addr) (c0 p0 : Nat) (zs : List Int) (s : ByteArray) (w : World) (hl : zs.length = p0) (hp : p0 ≤ 1024) (hs : s.size ≤ 1024) (hrow : w.ownsRow base 21 1 (.slice a0 p0 c0) p0 (zs.map (Value.int .i32))) (hb : base ≤ w.heap.size) :
    Calls Try.prog 23 #[.slice a0 p0 c0, .string s] w fun e W' => ReadR (RD (run zs []) 72 (bn s)) e base W' ∧ Below base w W' := by
  have HR := hid' hrow
  have HL := hid' hl
  obtain ⟨o, ho⟩ : ∃ o, RD (run zs []) 72 (bn s) = o := ⟨_, rfl⟩
  have HO0 := hid' ho
  rw [ho]
  clear hrow hl ho
  go_enter Try.func23, Try.ntmps23
  go_wp2_with fail
  refine (reader_any s w).mono ?_
  rintro e w1 ⟨Bs, Bl, rfl, R1, B1⟩
  have HR1 : Hid (Rs base w w1 Bs Bl o (.slice a0 p0 c0) 128 0 p0 72 zs s) :=
    ⟨ownsRow_below HR.out B1 (Nat.le_refl _), HL.out, ⟨R1.s, R1.l, Nat.le_trans hb R1.hs⟩, HO0.out.symm, B1.mono hb⟩
  clear R1 B1
  unfold leftF nextF
  go_wp2_with fail
  go_loopw [0, 5, 8, 9, 10] (fun v0 v5 v8 v9 v10 wr => ∃ (a : Option Addr) (c : Nat) (ok : Bool) (n : Int) (i p b : Nat) (pts : List Int) (t : ByteArray), v0 = .slice a p c ∧ v5 = .bool ok ∧ v8 = .int .i64 n ∧ v9 = .int .i64 i ∧ v10 = .int .i64 b ∧
      128 ≤ n ∧ n ≤ 1114111 ∧ i ≤ p ∧ t.size ≤ s.size ∧ p + t.size ≤ p0 + s.size ∧ b ≤ 100000000000 ∧ Hid (Rs base w wr Bs Bl o (.slice a p c) n i p b pts t))
    (fun _ _ _ _ _ wr => sizeAt wr Bs)
  case atStart => exact ⟨a0, c0, false, 128, 0, p0, 72, zs, s, rfl, rfl, rfl, rfl, rfl, by omega, by omega, Nat.zero_le _, Nat.le_refl _, Nat.le_refl _, by omega, HR1⟩
  case round =>
    obtain ⟨a, c, ok, n, i, p, b, pts, t, rfl, rfl, rfl, rfl, rfl, h1, h2, h3, h3', h4, h5, H⟩ := hrel
    by_cases ht : t.size = 0
    · have hd : decide (0 < t.size) = false := by rw [ht]; rfl
      have HO : Hid (o = some pts) := by
        show _ = _
        rw [H.out.eq, show bn t = [] from List.eq_nil_of_length_eq_zero (by rw [bn_length]; exact ht)]; rfl
      go_wp2_with (go_at_call 42; refine (leftc_any base _ Bs Bl t H.out.rdr).mono ?_; rw [hd]; rintro e w' ⟨rfl, rfl⟩)
      go_ret2
      rw [HO.out]
      exact ⟨⟨_, rfl, by rw [H.out.len]; exact H.out.row⟩, H.out.be⟩
    · have ht0 : 0 < t.size := by omega
      have hd : decide (0 < t.size) = true := by simpa using ht0
      have HN := hid' (number_any base wr Bs Bl i b t (by omega) (by omega) (by omega) H.out.rdr)
      have HSZ := hid' (sizeAt_of H.out.rdr.s)
      have HNE : Hid (bn t ≠ []) := by
        show _ ≠ _
        intro e
        have := bn_length t
        rw [e] at this
        simp at this; omega
      unfold nextF at HN
      cases hr : rn b 36 i 1 (bn t) with
      | none =>
        have HRn := hid' hr
        rw [hr] at HN
        clear hr
        have HO : Hid (o = none) := by
          show _ = _
          rw [H.out.eq, RD_none _ _ _ HNE.out HRn.out]
        go_wp2_with (first
          | (go_at_call 42; refine (leftc_any base _ Bs Bl t H.out.rdr).mono ?_; rw [hd]; rintro e w' ⟨rfl, hw'⟩; obtain rfl := hw'.symm)
          | (go_at_call 33; refine HN.out.mono ?_; rintro e w2 ⟨⟨rfl, -⟩, B2⟩))
        go_ret2
        rw [HO.out]
        exact ⟨rfl, below_gr H.out.be B2 H.out.rdr.hs (own_sz H.out.be hb)⟩
      | some jr =>
        obtain ⟨j, rest⟩ := jr
        have HRn := hid' hr
        rw [hr] at HN
        obtain ⟨j1, j2, ⟨q, j3, _⟩, _⟩ := rn_inv _ _ _ _ _ _ _ hr
        clear hr
        have hij : i ≤ j := by omega
        rw [bn_length] at j2
        clear j3
        obtain ⟨P, hP⟩ : ∃ P, p + 1 = P := ⟨_, rfl⟩
        have hP1 : 1 ≤ P := by omega
        have hP2 : P ≤ 3000 := by omega
        have q1 := Nat.div_le_self j P
        have r1 := Nat.mod_lt j (show 0 < P by omega)
        have HST : Hid ((⟨n, i, pts⟩ : St).step (j - i) = ⟨n + ((j / P : Nat) : Int), j % P + 1, pts.take (j % P) ++ (n + ((j / P : Nat) : Int)) :: pts.drop (j % P)⟩) := by
          show _ = _
          have := step_eq ⟨n, i, pts⟩ j hij
          rw [show (⟨n, i, pts⟩ : St).pts.length + 1 = P by show pts.length + 1 = P; rw [H.out.len]; exact hP] at this
          exact this
        obtain ⟨Q, hQ⟩ : ∃ Q, j / P = Q := ⟨_, rfl⟩
        obtain ⟨R, hR⟩ : ∃ R, j % P = R := ⟨_, rfl⟩
        have eQ : (j : Int) / ((p : Int) + 1) = (Q : Int) := by rw [← hQ, ← hP]; push_cast; rfl
        have eR : (j : Int) % ((p : Int) + 1) = (R : Int) := by rw [← hR, ← hP]; push_cast; rfl
        rw [hQ, hR] at HST
        rw [hQ] at q1
        rw [hR] at r1
        have rp : R ≤ p := by omega
        have HP := hid' hP
        clear hQ hR hP
        obtain ⟨d, hd'⟩ : ∃ d, j - i = d := ⟨_, rfl⟩
        have ed : (j : Int) - (i : Int) = (d : Int) := by omega
        have d1 : d ≤ 2147483647 := by omega
        rw [hd'] at HST
        have HD := hid' hd'
        clear hd'
        have HAL := hid' (adapt_le d (p + 1))
        have HA := hid' (fun (f : Bool) (w : World) => (show Calls Try.prog 11 #[.int .i64 d, .int .i64 ((p : Int) + 1), .bool f] w _ from adapt_any d (p + 1) f (by omega) (by omega) (by omega) w))
        cases hsc : scal (n + (Q : Int)) with
        | false =>
          have HO : Hid (o = none) := by
            show _ = _
            rw [H.out.eq]
            exact RD_bad _ _ _ _ _ HRn.out (by show scal ((⟨n, i, pts⟩ : St).step (j - i)).n = false; rw [HD.out, HST.out]; exact hsc)
          have HSC := hid' hsc
          clear hsc
          go_wp2_with (first
            | (go_at_call 42; refine (leftc_any base _ Bs Bl t H.out.rdr).mono ?_; rw [hd]; rintro e w' ⟨rfl, hw'⟩; obtain rfl := hw'.symm)
            | (go_at_call 33; refine HN.out.mono ?_; rintro e w2 ⟨⟨rfl, -⟩, B2⟩)
            | (go_at_call 11; refine (HA.out _ _).mono ?_; rintro e w' ⟨rfl, hw'⟩; obtain rfl := hw'.symm)
            | (go_at_call 34; refine (isScal_any _ (by omega) (by omega) _).mono ?_; rw [HSC.out]; rintro e w3 ⟨rfl, B3⟩))
          go_ret2
          rw [HO.out]
          have b2 := below_gr H.out.be B2 H.out.rdr.hs (own_sz H.out.be hb)
          exact ⟨rfl, b2.trans (B3.mono (own_sz b2 hb))⟩
        | true =>
          have hsl := scal_le hsc
          have HO : Hid (o = RD ⟨n + (Q : Int), R + 1, pts.take R ++ (n + (Q : Int)) :: pts.drop R⟩ (adapt d (p + 1) (i == 0)) rest) := by
            show _ = _
            have e := RD_next _ _ _ _ _ HRn.out (by show scal ((⟨n, i, pts⟩ : St).step (j - i)).n = true; rw [HD.out, HST.out]; exact hsc)
            rw [H.out.eq, e]
            show RD ((⟨n, i, pts⟩ : St).step (j - i)) (adapt (j - i) (pts.length + 1) (i == 0)) rest = _
            rw [HD.out, HST.out, H.out.len]
          have HSC := hid' hsc
          clear hsc
          go_wp2_with (first
            | (go_at_call 42; refine (leftc_any base _ Bs Bl t H.out.rdr).mono ?_; rw [hd]; rintro e w' ⟨rfl, hw'⟩; obtain rfl := hw'.symm)
            | (go_at_call 33; refine HN.out.mono ?_; rintro e w2 ⟨⟨rfl, hex⟩, B2⟩)
            | (go_at_call 11; refine (HA.out _ _).mono ?_; rintro e w' ⟨rfl, hw'⟩; obtain rfl := hw'.symm)
            | (go_at_call 34; refine (isScal_any _ (by omega) (by omega) _).mono ?_; rw [HSC.out]; rintro e w3 ⟨rfl, B3⟩))
          obtain ⟨t', RD2, HRt, ht'⟩ := hex
          have HRt' := hid' HRt
          have htl : t'.size < t.size := by rw [← bn_length t', HRt]; exact j2
          clear HRt
          have r2 := H.out.row.kept B2 (.inr (H.out.rdr.s.not_row (by decide) H.out.row).symm)
          have b2 := below_gr H.out.be B2 H.out.rdr.hs (own_sz H.out.be hb)
          have r3 := ownsRow_below r2 B3 (Nat.le_refl _)
          have RD3 := RD2.below B3 (Nat.le_refl _)
          have b3 := b2.trans (B3.mono (own_sz b2 hb))
          have z3 := own_sz b3 hb
          have r4 := r3.alloc (.cells #[.int .i32 (n + (Q : Int))] 21)
          have RD4 : Rdr base (w3.alloc (.cells #[.int .i32 (n + (Q : Int))] 21)) Bs Bl t' := ⟨RD3.s.alloc _, RD3.l.alloc _, RD3.hs⟩
          have HI := insert_any base (.slice a p c) pts R w3.heap.size (n + (Q : Int)) (w3.alloc (.cells #[.int .i32 (n + (Q : Int))] 21)) (by rw [H.out.len]; exact rp) (by rw [H.out.len]; omega) (by rw [H.out.len]; exact r4) (by simp; omega)
            (Boxed.new w3 21 _) (fun e => absurd (r3.lt _ e.symm).2 (Nat.lt_irrefl _))
          rw [H.out.len] at HI
          refine HI.mono ?_
          rintro e w5 ⟨v5, rfl, r5, g5⟩
          obtain ⟨a5, c5, rfl⟩ := own_sh21 r5
          have be5 : Below base w w5 := (b3.alloc z3 (.cells #[.int .i32 (n + (Q : Int))] 21)).grown g5 (by simp; omega) (fun k ek => (r3.lt _ ek).1)
          have RD5 := hid' (RD4.kept r4 g5)
          have R5 := hid' r5
          have BE5 := hid' be5
          have HBB : Hid ((((i : Int) == 0) : Bool) = (i == 0)) := by
            show _ = _
            cases i with
            | zero => rfl
            | succ k => simp; omega
          have hal := HAL.out ((i : Int) == 0) (by omega)
          clear HI r5 g5 be5 r4 RD4 r3 RD3 b3 b2 r2 RD2 B2 B3
          go_wp2
          go_roundw
          case rel =>
            refine ⟨a5, c5, true, n + (Q : Int), R + 1, p + 1, adapt d (p + 1) ((i : Int) == 0), pts.take R ++ (n + (Q : Int)) :: pts.drop R, t', rfl, rfl, rfl, by go_num, by first | rfl | go_num, by omega, by omega, by omega, by omega, by omega, by omega, ⟨R5.out, ?_, RD5.out, ?_, BE5.out⟩⟩
            · have := H.out.len
              simp; omega
            · rw [HO.out, HBB.out, HRt'.out]
          case measure =>
            rw [sizeAt_of RD5.out.s, HSZ.out]; exact htl
end Go.Proofs.Ytpjbiapgkbooaaa
