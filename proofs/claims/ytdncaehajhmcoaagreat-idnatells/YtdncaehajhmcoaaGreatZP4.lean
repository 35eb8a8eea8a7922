/- Texts of one layer, one behind the other: PBC PBD PCA. -/
import Derived.Test.YtdncaehajhmcoaaGreatZP3
import Derived.Test.YtdncaehajhmcoaaGreatZP1
import Derived.Test.YtdncaehajhmcoaaGreatZP2
/- What is written, whole: written. -/
namespace Go.Proofs.YtdncaehajhmcoaaGreat.P
open Go.RowKit U
set_option linter.unusedVariables false

theorem pen_new {base : Nat} {w : World} {Bo : Nat} {v : Value} {k : Nat} {xs : List Value} (ho : Boxed w Bo 39 v) (hrow : w.ownsRow base 5 1 v k xs) (hb : base ≤ Bo) (hsz : base ≤ w.heap.size) (h : Nat) :
    Pen base ((((w.alloc (.cells #[.pointer (some ⟨Bo, 0, none⟩)] 174)).alloc (.cells #[.int .i64 h] 3)).alloc (.cells #[.int .i64 72] 3)).alloc (.cells #[.bool true] 4)) (w.heap.size + 2) w.heap.size (w.heap.size + 1) (w.heap.size + 3) Bo 72 h true v k xs ∧
    Below base w ((((w.alloc (.cells #[.pointer (some ⟨Bo, 0, none⟩)] 174)).alloc (.cells #[.int .i64 h] 3)).alloc (.cells #[.int .i64 72] 3)).alloc (.cells #[.bool true] 4)) := by
  have s1 : (w.alloc (.cells #[.pointer (some ⟨Bo, 0, none⟩)] 174)).heap.size = w.heap.size + 1 := by simp
  have s2 : ((w.alloc (.cells #[.pointer (some ⟨Bo, 0, none⟩)] 174)).alloc (.cells #[.int .i64 h] 3)).heap.size = w.heap.size + 2 := by simp
  have s3 : (((w.alloc (.cells #[.pointer (some ⟨Bo, 0, none⟩)] 174)).alloc (.cells #[.int .i64 h] 3)).alloc (.cells #[.int .i64 72] 3)).heap.size = w.heap.size + 3 := by simp
  have b0 := Boxed.new w 174 (.pointer (some ⟨Bo, 0, none⟩))
  have b1 := Boxed.new (w.alloc (.cells #[.pointer (some ⟨Bo, 0, none⟩)] 174)) 3 (.int .i64 h)
  have b2 := Boxed.new ((w.alloc (.cells #[.pointer (some ⟨Bo, 0, none⟩)] 174)).alloc (.cells #[.int .i64 h] 3)) 3 (.int .i64 72)
  have b3 := Boxed.new (((w.alloc (.cells #[.pointer (some ⟨Bo, 0, none⟩)] 174)).alloc (.cells #[.int .i64 h] 3)).alloc (.cells #[.int .i64 72] 3)) 4 (.bool true)
  rw [s1] at b1
  rw [s2] at b2
  rw [s3] at b3
  exact ⟨⟨b2.alloc _, ((b0.alloc _).alloc _).alloc _, (b1.alloc _).alloc _, b3, (((ho.alloc _).alloc _).alloc _).alloc _, (((hrow.alloc _).alloc _).alloc _).alloc _, by omega, by omega, by omega, by omega, hb, by simp; omega⟩,
    ((((Below.refl base w).alloc hsz _).alloc (by simp; omega) _).alloc (by simp; omega) _).alloc (by simp; omega) _⟩

set_option maxHeartbeats 1000000 in
theorem writer_any (base Bo : Nat) (v : Value) (k h : Nat) (xs : List Value) (w : World) (ho : Boxed w Bo 39 v) (hrow : w.ownsRow base 5 1 v k xs) (hb : base ≤ Bo) (hsz : base ≤ w.heap.size) :
    Calls Tryz.prog 164 #[.pointer (some ⟨Bo, 0, none⟩), .int .i64 h] w fun e W' => ∃ Bb Bp Bn Bf, e = .returned (.func (.func 181) #[] #[.pointer (some ⟨Bb, 0, none⟩), .pointer (some ⟨Bp, 0, none⟩), .pointer (some ⟨Bn, 0, none⟩), .pointer (some ⟨Bf, 0, none⟩)]) ∧
      Pen base W' Bb Bp Bn Bf Bo 72 h true v k xs ∧ Below base w W' := by
  have P := pen_new ho hrow hb hsz h
  go_enter Tryz.func164, Tryz.ntmps164
  go_wp2
  go_ret
  exact ⟨_, _, _, _, rfl, P⟩

theorem own_sh5 {base n : Nat} {v : Value} {X : List Value} {W : World} (h : W.ownsRow base 5 1 v n X) : ∃ a cap, v = .slice a n cap := by
  rcases h.2 with ⟨rfl, h0⟩ | ⟨g, cap, cur, rfl, _⟩
  · exact ⟨none, 0, by rw [h0]⟩
  · exact ⟨_, cap, rfl⟩
theorem hd_some (p : List Int) (h : 0 < p.length) : hd p = p ++ [45] := by unfold hd; rw [if_neg (by omega)]
theorem hd_none (p : List Int) (h : p.length = 0) : hd p = [] := by unfold hd; rw [if_pos h]

/-- Where the writing stands: h of them written, n and delta. -/
structure Wr (l : List Int) (base : Nat) (w wr : World) (Bb Bp Bn Bf Bo : Nat) (h dl : Nat) (n : Int) (j : Nat) : Prop where
  n0 : 128 ≤ n
  n1 : n ≤ 1114112
  ex : ∃ (ds : List Nat) (v : Value) (k : Nat), EI l n j dl ds ∧ (∀ d ∈ ds, d ≤ 71303231) ∧ h = (plain l).length + ds.length ∧ k ≤ 100 + 71303232 * ds.length ∧ k = (hd (plain l) ++ tx (plain l).length ds).length ∧
    Pen base wr Bb Bp Bn Bf Bo (bia (plain l).length ds) h ds.isEmpty v k ((hd (plain l) ++ tx (plain l).length ds).map (Value.int .u8))
  be : Below base w wr
theorem Wr.h_le {l : List Int} {base : Nat} {w wr : World} {Bb Bp Bn Bf Bo h dl : Nat} {n : Int} {j : Nat} (s : Wr l base w wr Bb Bp Bn Bf Bo h dl n j) : h ≤ l.length ∧ h = (had l n j).length := by
  obtain ⟨ds, v, k, e, _, hh, _⟩ := s.ex
  have := e.len
  have := had_le l n j
  omega
theorem bia_le (p : Nat) (ds : List Nat) (hd : ∀ d ∈ ds, d ≤ 71303231) : bia p ds ≤ 1000000000 := by
  cases ds with
  | nil => simp [bia]
  | cons d ds =>
    have h1 := hd d (by simp)
    have := adapt_le d (p + ds.length + 1) ds.isEmpty (by omega)
    rw [bia]; omega

section
variable {l : List Int} {base : Nat} {w wr : World} {Bb Bp Bn Bf Bo h dl : Nat} {n : Int} {j : Nat}
theorem Wr.dl_le (s : Wr l base w wr Bb Bp Bn Bf Bo h dl n j) (hl : l.length ≤ 63) : dl ≤ 71303231 := by
  obtain ⟨ds, v, k, e, _⟩ := s.ex
  exact e.bound s.n1 hl
theorem Wr.less (s : Wr l base w wr Bb Bp Bn Bf Bo h dl n j) (hj : j < l.length) (hx : l[j]?.getD 0 < n) : Wr l base w wr Bb Bp Bn Bf Bo h (dl + 1) n (j + 1) := by
  obtain ⟨ds, v, k, e, r⟩ := s.ex
  exact ⟨s.n0, s.n1, ⟨ds, v, k, e.less hj hx, r⟩, s.be⟩
theorem Wr.more (s : Wr l base w wr Bb Bp Bn Bf Bo h dl n j) (hj : j < l.length) (hx : n < l[j]?.getD 0) : Wr l base w wr Bb Bp Bn Bf Bo h dl n (j + 1) := by
  obtain ⟨ds, v, k, e, r⟩ := s.ex
  exact ⟨s.n0, s.n1, ⟨ds, v, k, e.more hj hx, r⟩, s.be⟩
theorem Wr.pass (s : Wr l base w wr Bb Bp Bn Bf Bo h dl n l.length) (hn : n ≤ 1114111) : Wr l base w wr Bb Bp Bn Bf Bo h (dl + 1) (n + 1) 0 := by
  obtain ⟨ds, v, k, e, r⟩ := s.ex
  exact ⟨by have := s.n0; omega, by omega, ⟨ds, v, k, e.pass, r⟩, s.be⟩
theorem Wr.jump (s : Wr l base w wr Bb Bp Bn Bf Bo h dl n 0) (m : Int) (hm : IsLeast l n m) (hl : ∀ x ∈ l, x ≤ 1114111) (D : Nat) (hD : (D : Int) = dl + (m - n) * ((h : Int) + 1)) : Wr l base w wr Bb Bp Bn Bf Bo h D m 0 := by
  obtain ⟨-, hh⟩ := s.h_le
  obtain ⟨ds, v, k, e, r⟩ := s.ex
  have := hl m hm.1
  exact ⟨by have := s.n0; have := hm.2.1; omega, by omega, ⟨ds, v, k, e.jump hm.2.1 hm.2.2 D (by rw [← hh]; exact hD), r⟩, s.be⟩
theorem Wr.left (s : Wr l base w wr Bb Bp Bn Bf Bo h dl n 0) (hl : h < l.length) : ∃ x ∈ l, n ≤ x := by
  obtain ⟨-, hh⟩ := s.h_le
  exact EI.left (dl := dl) (ds := []) (by omega)
theorem Wr.put (s : Wr l base w wr Bb Bp Bn Bf Bo h dl n j) (hlen : l.length ≤ 63) (hj : j < l.length) (hx : l[j]?.getD 0 = n) :
    Calls Tryz.prog 181 #[.int .i64 dl, .pointer (some ⟨Bb, 0, none⟩), .pointer (some ⟨Bp, 0, none⟩), .pointer (some ⟨Bn, 0, none⟩), .pointer (some ⟨Bf, 0, none⟩)] wr
      fun e W' => e = .returned (.tuple #[]) ∧ Wr l base w W' Bb Bp Bn Bf Bo (h + 1) 0 n (j + 1) := by
  have hh := s.h_le
  have hdl := s.dl_le hlen
  obtain ⟨ds, v, k, e, hds, hh2, hk, hkl, P⟩ := s.ex
  refine (put_any base Bb Bp Bn Bf Bo _ h ds.isEmpty v k _ dl hdl (bia_le _ _ hds) (by omega) (by omega) wr P).mono ?_
  rintro e W' ⟨rfl, ⟨v', P'⟩, B'⟩
  have hw := wn_le (bia (plain l).length ds) 36 dl
  refine ⟨rfl, s.n0, s.n1, ⟨dl :: ds, v', k + (wn (bia (plain l).length ds) 36 dl).length, e.put hj hx, ?_, by rw [List.length_cons]; omega, ?_, ?_, ?_⟩, s.be.trans B'⟩
  · intro d hd
    rcases List.mem_cons.mp hd with rfl | hd
    · exact hdl
    · exact hds d hd
  · rw [List.length_cons]; omega
  · rw [hkl, tx, ← List.append_assoc, List.length_append (bs := wn _ _ _)]
  · have e1 : bia (plain l).length (dl :: ds) = adapt dl (h + 1) ds.isEmpty := by rw [bia, hh2]
    rw [e1, tx, ← List.append_assoc]
    exact P'
/-- All are written. -/
theorem Wr.fin (s : Wr l base w wr Bb Bp Bn Bf Bo h dl n 0) (hl : l.length ≤ h) (h0 : ∀ x ∈ l, 0 ≤ x) : ∃ v k T, Boxed wr Bo 39 v ∧ (∃ a c, v = .slice a k c) ∧ (convert 39 9 v).run Tryz.prog wr = .ok (.string T) wr ∧ Enc l (bn T) := by
  obtain ⟨-, hh⟩ := s.h_le
  obtain ⟨ds, v, k, e, _, hh2, hk, hkl, P⟩ := s.ex
  have E : Enc l (hd (plain l) ++ tx (plain l).length ds) := ⟨ds, rfl, e.fin (by omega)⟩
  obtain ⟨T, h1, h2⟩ := conv_string wr base v k (hd (plain l) ++ tx (plain l).length ds) hkl (fun c hc => by have := E.ascii h0 c hc; omega) P.row
  obtain ⟨a, c, rfl⟩ := own_sh5 P.row
  exact ⟨_, k, T, P.o, ⟨a, c, rfl⟩, h1, by rw [h2]; exact E⟩
end

set_option maxRecDepth 100000 in
set_option maxHeartbeats 8000000 in
theorem written_some (b off cap : Nat) (l : List Int) (hlen : l.length ≤ 63) (hall : l.all scal = true) (w : World) (hp : 0 < l.length) (hc : ∀ j, j < l.length → w.cell? ⟨b, off + j, none⟩ = some (.int .i32 (l[j]?.getD 0))) :
    Calls Tryz.prog 123 #[.slice (some ⟨b, off, none⟩) l.length cap] w fun e W' => ∃ T, e = .returned (.string T) ∧ Enc l (bn T) ∧ Below w.heap.size w W' := by
  obtain ⟨i0, hi0, hz0, hz1, hz2⟩ := info_parts Tryz.info5
  have hb : b < w.heap.size := lt_of_cell (hc 0 hp)
  have hbd := all_bd hall
  have HP := hid (plainOf_any (.slice (some ⟨b, off, none⟩) l.length cap) l (by omega) (fun x hx => (hbd x hx).1) w (.inr ⟨hp, b, off, cap, rfl, hc⟩))
  have hpl := plain_len l
  obtain ⟨p, hpp⟩ : ∃ p, (plain l).length = p := ⟨_, rfl⟩
  have HPP := hid hpp
  rw [hpp] at HP hpl
  clear hpp
  obtain ⟨N, hN⟩ : ∃ N, l.length = N := ⟨_, rfl⟩
  have HN := hid hN
  rw [hN] at HP hlen hp hpl ⊢
  have hc' : ∀ j, j < N → w.cell? ⟨b, off + j, none⟩ = some (.int .i32 (l[j]?.getD 0)) := by rw [← hN]; exact hc
  clear hN hc
  go_enter Tryz.func123, Tryz.ntmps123
  go_wp2_with fail
  refine HP.out.mono ?_
  rintro e w1 ⟨v1, rfl, r1, B1⟩
  obtain ⟨a1, c1, rfl⟩ := own_sh5 r1
  have bo := Boxed.new w1 39 (.slice a1 p c1)
  have R1 := hid (r1.alloc (.cells #[.slice a1 p c1] 39))
  have s1 := B1.size
  go_upto_if 16 with fail
  go_cut [] from 16 (fun wc => ∃ v k, Hid (Boxed wc w1.heap.size 39 v) ∧ Hid (wc.ownsRow w.heap.size 5 1 v k ((hd (plain l)).map (Value.int .u8))) ∧ k = (hd (plain l)).length ∧ Hid (Below w.heap.size w wc))
  case first =>
    by_cases hp0 : p = 0
    · go_wp2_with fail
      go_meet
      case rel =>
        have e : hd (plain l) = [] := hd_none _ (HPP.out.trans hp0)
        refine ⟨_, p, bo, ?_, by rw [e, hp0]; rfl, (B1.alloc B1.size _)⟩
        show World.ownsRow _ _ _ _ _ _ _
        have e2 : plain l = [] := List.eq_nil_of_length_eq_zero (HPP.out.trans hp0)
        have := R1.out
        rw [e2] at this
        rw [e]; exact this
    · have hpz : (0 : Int) < (p : Int) := by omega
      have BO := hid bo
      have cb := bo.cell
      clear bo r1
      go_wp2_with (at_builtin; refine wpList_append_own _ rfl _ _ 39 rfl w.heap.size 5 i0 (.int .u8 0) 1 1 Tryz.underlying39 hi0 hz0 hz1 hz2 rfl (by decide) _ _ _ rfl (R1.out.alloc _) ⟨w1.heap.size + 1, 0, none⟩ 1 1 [.int .u8 45] rfl rfl (by have := news_at (w1.alloc (.cells #[.slice a1 p c1] 39)) 5 [.int .u8 45]; simpa using this) (by simp [Value.oneCell']) (by unfold maxLen; omega) (by omega) (by simp; omega) ?_; intro v2 w3 hown hgrow _; obtain ⟨a2, c2, rfl⟩ := own_sh5 hown; have c3 := boxed_called (t := 39) (e := 5) (n₀ := w.heap.size) (BO.out.alloc _) (by decide) (R1.out.alloc _) (by simp; omega) (by omega) hown hgrow; have c4 := c3.1.cell; have c5 := c3.1.frozen)
      go_meet
      case rel =>
        have e : hd (plain l) = plain l ++ [45] := hd_some _ (by rw [HPP.out]; omega)
        refine ⟨_, p + 1, c3.2.1, ?_, by rw [e, List.length_append, HPP.out]; rfl, ?_⟩
        · show World.ownsRow _ _ _ _ _ _ _
          rw [e, List.map_append]; exact c3.2.2.1
        · show Below _ _ _
          exact ((B1.alloc B1.size _).alloc (by simp; omega) _).trans c3.2.2.2.2
  case rest =>
    obtain ⟨v, k, h1, h2, hk, h3⟩ := hcut
    have hkl := hd_len (plain l)
    have HK := hid hk
    have hk2 : k ≤ 100 := by rw [HPP.out] at hkl; omega
    clear hk hkl
    go_wp2_with (go_at_call 164; refine (writer_any w.heap.size w1.heap.size v k p _ _ h1.out h2.out s1 h3.out.size).mono ?_; rintro e w4 ⟨Bb, Bp, Bn, Bf, rfl, PN, B4⟩)
    go_loopw [4, 6, 7] (fun vh vn vd wr => ∃ (h dl : Nat) (n : Int), vh = .int .i64 h ∧ vn = .int .i32 n ∧ vd = .int .i64 dl ∧ Hid (Wr l w.heap.size w wr Bb Bp Bn Bf w1.heap.size h dl n 0))
      (fun _ vn _ _ => ups l (intOf vn))
    case atStart =>
      refine ⟨p, 0, 128, rfl, rfl, rfl, by omega, by omega, ⟨[], v, k, EI.start l, (fun d hd => by cases hd), by rw [HPP.out]; rfl, by omega, by rw [HK.out]; simp [tx], ?_⟩, h3.out.trans B4⟩
      simpa [tx, bia] using PN
    case round =>
      obtain ⟨h, dl, n, rfl, rfl, rfl, HW⟩ := hrel
      by_cases hlt : h < N
      · have n0 := HW.out.n0
        have n1 := HW.out.n1
        have d1 := HW.out.dl_le (by rw [HN.out]; exact hlen)
        have HM := hid (lst_least l n (fun x hx => (hbd x hx).2) (HW.out.left (by rw [HN.out]; exact hlt)))
        have m1 := (hbd _ HM.out.1).2
        have m0 := HM.out.2.1
        have hcr : ∀ j, j < N → wr.cell? ⟨b, off + j, none⟩ = some (.int .i32 (l[j]?.getD 0)) := fun j hj => (HW.out.be.cell (p := ⟨b, off + j, none⟩) hb).trans (hc' j hj)
        have HL := hid (least_any b off cap l n (by rw [HN.out]; omega) (by rw [HN.out]; exact hp) wr (by rw [HN.out]; exact hcr))
        rw [HN.out] at HL
        obtain ⟨m, hm⟩ : ∃ m, lst l n = m := ⟨_, rfl⟩
        rw [hm] at HM m0 m1 HL
        clear hm
        obtain ⟨X, hX⟩ : ∃ X : Nat, (m - n) * ((h : Int) + 1) = (X : Int) := ⟨((m - n) * ((h : Int) + 1)).toNat, by have := Int.mul_nonneg (show 0 ≤ m - n by omega) (show 0 ≤ (h : Int) + 1 by omega); omega⟩
        have hX1 : X ≤ 1114112 * 63 := by
          have a1 : (m - n) * ((h : Int) + 1) ≤ 1114112 * ((h : Int) + 1) := Int.mul_le_mul_of_nonneg_right (by omega) (by omega)
          omega
        have HW2 := hid (HW.out.jump m HM.out (fun x hx => (hbd x hx).2) (dl + X) (by rw [hX]; push_cast; rfl))
        clear hcr
        have HBD := hid hbd
        go_wp2_with (go_at_call 165; refine HL.out.mono ?_; rintro e w' ⟨rfl, hw'⟩; obtain rfl := hw'.symm)
        go_loopw [4, 7, 41] (fun vh vd vj wi => ∃ (h dl j : Nat), vh = .int .i64 h ∧ vd = .int .i64 dl ∧ vj = .int .i64 j ∧ j ≤ N ∧ Hid (Wr l w.heap.size w wi Bb Bp Bn Bf w1.heap.size h dl m j))
          (fun _ _ vj _ => N - (intOf vj).toNat)
        case atStart => exact ⟨h, dl + X, 0, rfl, by first | rfl | go_num, rfl, Nat.zero_le _, HW2⟩
        case round =>
          obtain ⟨h', dl', j, rfl, rfl, rfl, hj, HV⟩ := hrel
          have e1 := HV.out.dl_le (by rw [HN.out]; exact hlen)
          have e2 := HV.out.h_le.1
          rw [HN.out] at e2
          by_cases hjn : j < N
          · have hck : wr.cell? ⟨b, off + j, none⟩ = some (.int .i32 (l[j]?.getD 0)) := (HV.out.be.cell (p := ⟨b, off + j, none⟩) hb).trans (hc' j hjn)
            have HLs := hid (fun h => HV.out.less (by rw [HN.out]; exact hjn) h)
            have HMo := hid (fun h => HV.out.more (by rw [HN.out]; exact hjn) h)
            have HPu := hid (fun h => HV.out.put (by rw [HN.out]; exact hlen) (by rw [HN.out]; exact hjn) h)
            obtain ⟨c, hcc⟩ : ∃ c, l[j]?.getD 0 = c := ⟨_, rfl⟩
            rw [hcc] at hck HLs HMo HPu
            clear hcc
            rcases Int.lt_trichotomy c m with hcm | hcm | hcm
            · go_wp2
              go_roundw
              case rel => exact ⟨h', dl' + 1, j + 1, rfl, by go_num, by go_num, by omega, HLs.out hcm⟩
              case measure => simp [intOf]; omega
            · subst hcm
              go_wp2_with (go_at_call 181; refine (HPu.out rfl).mono ?_; rintro e w' ⟨rfl, HW'⟩)
              go_roundw
              case rel => exact ⟨h' + 1, 0, j + 1, by go_num, rfl, by go_num, by omega, HW'⟩
              case measure => simp [intOf]; omega
            · go_wp2
              go_roundw
              case rel => exact ⟨h', dl', j + 1, rfl, rfl, by go_num, by omega, HMo.out hcm⟩
              case measure => simp [intOf]; omega
          · obtain rfl : j = N := by omega
            go_wp2
            go_roundw
            case rel => exact ⟨h', dl' + 1, m + 1, rfl, by go_num, by go_num, Wr.pass (by rw [HN.out]; exact HV.out) m1⟩
            case measure => exact ups_less l n m HM.out
      · obtain ⟨v, k, T, hbx, ⟨a, c, rfl⟩, hcv, HE⟩ := HW.out.fin (by rw [HN.out]; omega) (fun x hx => (hbd x hx).1)
        have cc := hbx.cell
        have HE' := hid HE
        clear HE
        go_wp2
        go_ret
        exact ⟨T, rfl, HE'.out, HW.out.be⟩
end Go.Proofs.YtdncaehajhmcoaaGreat.P
/- The contract of puny.Encode. -/
namespace Go.Proofs.YtdncaehajhmcoaaGreat.P
open Go.RowKit U
set_option linter.unusedVariables false

set_option maxRecDepth 100000 in
set_option maxHeartbeats 2000000 in
theorem written_none (a : Option Addr) (cap : Nat) (w : World) :
    Calls Tryz.prog 123 #[.slice a 0 cap] w fun e W' => ∃ T, e = .returned (.string T) ∧ Enc [] (bn T) ∧ Below w.heap.size w W' := by
  have HP := hid (plainOf_any (.slice a 0 cap) [] (by simp) (by simp) w (.inl ⟨rfl, a, cap, rfl⟩))
  go_enter Tryz.func123, Tryz.ntmps123
  go_wp2_with fail
  refine HP.out.mono ?_
  rintro e w1 ⟨v1, rfl, r1, B1⟩
  obtain ⟨a1, c1, rfl⟩ := own_sh5 r1
  have bo := Boxed.new w1 39 (.slice a1 0 c1)
  have R1 := hid (r1.alloc (.cells #[.slice a1 0 c1] 39))
  have s1 := B1.size
  have e0 : (plain []).length = 0 := rfl
  go_wp2_with (go_at_call 164; refine (writer_any w.heap.size w1.heap.size (.slice a1 0 c1) 0 0 [] _ bo R1.out s1 (by simp; omega)).mono ?_; rintro e w4 ⟨Bb, Bp, Bn, Bf, rfl, PN, B4⟩)
  refine wp_loop_rounds 1 ?_
  rw [rounds_succ]
  obtain ⟨T, hcv, hT⟩ := conv_string w4 w.heap.size (.slice a1 0 c1) 0 [] rfl (fun b hb => by cases hb) PN.row
  have HT := hid hT
  have cc := PN.o.cell
  clear hT
  go_wp2
  go_ret
  exact ⟨T, rfl, ⟨[], by rw [HT.out]; rfl, rfl⟩, (B1.alloc B1.size _).trans B4⟩

theorem written_any (v : Value) (l : List Int) (hlen : l.length ≤ 63) (hall : l.all scal = true) (w : World) (hv : IntsAt w v l) :
    Calls Tryz.prog 123 #[v] w fun e W' => ∃ T, e = .returned (.string T) ∧ Enc l (bn T) ∧ Below w.heap.size w W' := by
  rcases hv with ⟨rfl, a, cap, rfl⟩ | ⟨hp, b, off, cap, rfl, hc⟩
  · exact written_none a cap w
  · exact written_some b off cap l hlen hall w hp hc

/-- What puny.Encode answers. -/
def EncR (l : List Int) (t : ByteArray) (e : Int) : Prop :=
  (63 < l.length ∧ t = ⟨#[]⟩ ∧ e = 4) ∨ (l.length ≤ 63 ∧ l.all scal = false ∧ t = ⟨#[]⟩ ∧ e = 2) ∨
    (l.length ≤ 63 ∧ l.all scal = true ∧ ∃ T, Enc l T ∧ ((63 < T.length ∧ t = ⟨#[]⟩ ∧ e = 4) ∨ (T.length ≤ 63 ∧ bn t = T ∧ e = 0)))

theorem ints_sh {w : World} {v : Value} {l : List Int} (h : IntsAt w v l) : ∃ a cap, v = .slice a l.length cap := by
  rcases h with ⟨rfl, a, cap, rfl⟩ | ⟨hp, b, off, cap, rfl, hc⟩
  · exact ⟨a, cap, rfl⟩
  · exact ⟨_, cap, rfl⟩

set_option maxRecDepth 100000 in
set_option maxHeartbeats 2000000 in
theorem pencode_any (v : Value) (l : List Int) (hlen : l.length ≤ 17179869184) (w : World) (hv : IntsAt w v l) :
    Calls Tryz.prog 83 #[v] w fun e W' => (∃ t r, e = .returned (.tuple #[.string t, .int .i64 r]) ∧ EncR l t r) ∧ Below w.heap.size w W' := by
  obtain ⟨a, cap, rfl⟩ := ints_sh hv
  have HU := hid (encode_any _ l hlen w hv)
  have HV := hid hv
  have HW := hid (fun (h1 : l.length ≤ 63) (h2 : l.all scal = true) (w : World) (hv : IntsAt w (.slice a l.length cap) l) => written_any _ l h1 h2 w hv)
  clear hv
  obtain ⟨N, hN⟩ : ∃ N, l.length = N := ⟨_, rfl⟩
  have HN := hid hN
  rw [hN] at HU HV HW hlen ⊢
  clear hN
  go_enter Tryz.func83, Tryz.ntmps83
  by_cases h1 : 63 < N
  · go_wp2
    go_ret2
    exact ⟨⟨_, _, rfl, .inl ⟨by rw [HN.out]; exact h1, rfl, rfl⟩⟩, Below.refl _ _⟩
  · go_wp2_with fail
    refine HU.out.mono ?_
    rintro e w1 ⟨⟨t, r, rfl, hr⟩, B1⟩
    rcases hr with ⟨q1, rfl, q3⟩ | ⟨q1, rfl, q3⟩
    · have HQ := hid q1
      have HQ3 := hid q3
      clear q1 q3
      have HI := hid (HV.out.below B1 (Nat.le_refl _))
      go_wp2_with fail
      refine (HW.out (by omega) HQ.out w1 HI.out).mono ?_
      rintro e w2 ⟨T, rfl, HT, B2⟩
      have HT' := hid HT
      clear HT
      have B12 := B1.trans (B2.mono B1.size)
      by_cases h2 : 63 < T.size
      · go_wp2
        go_ret2
        exact ⟨⟨_, _, rfl, .inr (.inr ⟨by rw [HN.out]; omega, HQ.out, _, HT'.out, .inl ⟨by rw [bn_length]; exact h2, rfl, rfl⟩⟩)⟩, B12⟩
      · go_wp2
        go_ret2
        exact ⟨⟨_, _, rfl, .inr (.inr ⟨by rw [HN.out]; omega, HQ.out, _, HT'.out, .inr ⟨by rw [bn_length]; omega, rfl, rfl⟩⟩)⟩, B12⟩
    · have HQ := hid q1
      clear q1
      go_wp2
      go_ret2
      exact ⟨⟨_, _, rfl, .inr (.inl ⟨by rw [HN.out]; omega, HQ.out, rfl, rfl⟩)⟩, B1⟩
end Go.Proofs.YtdncaehajhmcoaaGreat.P
/- What is read, its parts: whether all bytes are below 128, the last hyphen, the two halves. -/
namespace Go.Proofs.YtdncaehajhmcoaaGreat.P
open Go.RowKit U
set_option linter.unusedVariables false

theorem hid' {p : Prop} (h : p) : Hid p := h
def asc (l : List Int) : Bool := l.all fun c => decide (c < 128)
theorem bn_get (s : ByteArray) (k : Nat) (h : k < s.size) : (bn s)[k]?.getD 0 = (s[k].toNat : Int) := by
  have := bn_drop s k h
  rw [← List.head?_drop, this]; rfl
theorem bn_take (s : ByteArray) (k : Nat) (h : k < s.size) : (bn s).take (k + 1) = (bn s).take k ++ [(s[k].toNat : Int)] := by
  rw [take_snoc (bn s) k (by rw [bn_length]; exact h), bn_get s k h]
theorem asc_snoc (s : ByteArray) (k : Nat) (h : k < s.size) : asc ((bn s).take (k + 1)) = (asc ((bn s).take k) && decide ((s[k].toNat : Int) < 128)) := by
  rw [bn_take s k h, asc, List.all_append]; simp [asc]
theorem asc_false (s : ByteArray) (k : Nat) (h : k < s.size) (hb : 128 ≤ (s[k].toNat : Int)) : asc (bn s) = false := by
  unfold asc
  rw [List.all_eq_false]
  exact ⟨(s[k].toNat : Int), by rw [← List.take_append_drop (k + 1) (bn s), bn_take s k h]; simp, by simp; omega⟩

set_option maxHeartbeats 1000000 in
theorem isPlain_any (s : ByteArray) (hs : s.size ≤ 1024) (w : World) :
    Calls Tryz.prog 89 #[.string s] w fun e w' => e = .returned (.bool (asc (bn s))) ∧ w' = w := by
  go_enter Tryz.func89, Tryz.ntmps89
  go_wp2_with fail
  go_loop [6] (fun i => ∃ k : Nat, k ≤ s.size ∧ i = .int .i64 k ∧ Hid (asc ((bn s).take k) = true)) (fun i => s.size - (intOf i).toNat)
  case atStart => exact ⟨0, Nat.zero_le _, rfl, rfl⟩
  case round =>
    obtain ⟨k, hk, rfl, ha⟩ := hrel
    by_cases hlt : k < s.size
    · have HS := hid' (asc_snoc s k hlt)
      by_cases hb : 128 ≤ (s[k].toNat : Int)
      · have HF := hid' (asc_false s k hlt hb)
        go_wp2
        go_ret
        rw [HF.out]
        exact ⟨rfl, rfl⟩
      · go_wp2
        refine ⟨⟨k + 1, by omega, by go_num, ?_⟩, by simp [intOf]; omega⟩
        show asc _ = true
        rw [HS.out, ha.out]; simp; omega
    · have hkk : k = s.size := by omega
      have HA : Hid (asc (bn s) = true) := by
        have := ha.out
        rw [hkk, List.take_of_length_le (by rw [bn_length]; exact Nat.le_refl _)] at this
        exact this
      go_wp2
      go_ret
      rw [HA.out]
      exact ⟨rfl, rfl⟩

/-- The last hyphen among the first k; 0, if there is none but at 0. -/
def cutK (l : List Int) : Nat → Nat
  | 0 => 0
  | k + 1 => if l[k]?.getD 0 = 45 then k else cutK l k
theorem cutK_le (l : List Int) : ∀ k, cutK l k ≤ k
  | 0 => Nat.le_refl _
  | k + 1 => by have := cutK_le l k; rw [cutK]; split <;> omega
def cutAt (l : List Int) : Nat := cutK l l.length
theorem cutK_at (l : List Int) : ∀ k, cutK l k ≠ 0 → l[cutK l k]?.getD 0 = 45 ∧ cutK l k < k
  | 0, h => absurd rfl h
  | k + 1, h => by
    rw [cutK] at h ⊢
    split
    · rename_i hk; exact ⟨hk, by omega⟩
    · rename_i hk
      rw [if_neg hk] at h
      have := cutK_at l k h
      exact ⟨this.1, by omega⟩

set_option maxHeartbeats 1000000 in
theorem last_any (s : ByteArray) (hs : s.size ≤ 1024) (w : World) :
    Calls Tryz.prog 169 #[.string s, .int .u8 45] w fun e w' => ∃ r : Int, e = .returned (.int .i64 r) ∧ -1 ≤ r ∧ r ≤ 1024 ∧ r.toNat = cutAt (bn s) ∧ w' = w := by
  go_enter Tryz.func169, Tryz.ntmps169
  go_wp2_with fail
  go_loop [5] (fun vi => ∃ k : Nat, k ≤ s.size ∧ vi = .int .i64 ((k : Int) - 1) ∧ Hid (cutAt (bn s) = cutK (bn s) k)) (fun vi => ((intOf vi) + 1).toNat)
  case atStart => exact ⟨s.size, Nat.le_refl _, by first | rfl | go_num | (congr 1; omega), by show cutAt (bn s) = _; rw [cutAt, bn_length]⟩
  case round =>
    obtain ⟨k, hk, rfl, hh⟩ := hrel
    by_cases k0 : k = 0
    · subst k0
      go_wp2
      go_ret
      exact ⟨_, rfl, by omega, by omega, by rw [hh.out]; rfl, rfl⟩
    · obtain ⟨j, rfl⟩ : ∃ j, k = j + 1 := ⟨k - 1, by omega⟩
      have hj : j < s.size := by omega
      have HG := hid' (bn_get s j hj)
      have e1 : ((j + 1 : Nat) : Int) - 1 = (j : Int) := by omega
      rw [e1]
      clear e1
      by_cases hc : (s[j].toNat : Int) = 45
      · have HC := hid' hc
        go_wp2
        go_ret
        exact ⟨_, rfl, by omega, by omega, by rw [hh.out, cutK, if_pos (HG.out.trans HC.out)]; try omega, rfl⟩
      · have HC := hid' hc
        go_wp2
        refine ⟨⟨j, by omega, by first | rfl | go_num, ?_⟩, by simp [intOf]; try omega⟩
        show _ = _
        rw [hh.out, cutK, if_neg (by rw [HG.out]; exact HC.out)]

set_option maxHeartbeats 1000000 in
theorem lastIndex_any (s : ByteArray) (hs : s.size ≤ 1024) (w : World) :
    Calls Tryz.prog 140 #[.string s, .int .u8 45] w fun e w' => ∃ r : Int, e = .returned (.int .i64 r) ∧ -1 ≤ r ∧ r ≤ 1024 ∧ r.toNat = cutAt (bn s) ∧ w' = w := by
  go_enter Tryz.func140, Tryz.ntmps140
  go_wp2_with (go_at_call 169; refine (last_any s hs _).mono ?_; rintro e w' ⟨r, rfl, h1, h2, h3, rfl⟩)
  go_ret
  exact ⟨r, rfl, h1, h2, h3, rfl⟩

/-- What stands ahead of the last hyphen, and the digits. -/
def fore (l : List Int) : List Int := l.take (cutAt l)
def aft (l : List Int) : List Int := if cutAt l = 0 then l else l.drop (cutAt l + 1)

theorem bn_extract (s : ByteArray) (i j : Nat) (h : j ≤ s.size) : bn (s.extract i j) = ((bn s).drop i).take (j - i) := by
  unfold bn
  have e : (s.extract i j).data.toList = (s.data.toList.drop i).take (j - i) := by
    rw [ByteArray.data_extract, Array.toList_extract]
    try simp [List.extract]
  rw [e, List.map_take, List.map_drop]
set_option maxHeartbeats 2000000 in
theorem halves_any (s : ByteArray) (hs : s.size ≤ 1024) (w : World) :
    Calls Tryz.prog 90 #[.string s] w fun e w' => ∃ a b : ByteArray, e = .returned (.tuple #[.string a, .string b]) ∧ bn a = fore (bn s) ∧ bn b = aft (bn s) ∧ a.size ≤ s.size ∧ b.size ≤ s.size ∧ Below w.heap.size w w' := by
  have hle := cutK_le (bn s) (bn s).length
  rw [bn_length] at hle
  have HW := hid' (cutK_at (bn s) (bn s).length)
  go_enter Tryz.func90, Tryz.ntmps90
  go_wp2_with fail
  refine (lastIndex_any s hs _).mono ?_
  rintro e w' ⟨r, rfl, h1, h2, h3, rfl⟩
  have H3 := hid' h3
  clear h3
  by_cases hr : r < 1
  · go_wp2
    go_ret2
    have e0 : cutAt (bn s) = 0 := by rw [← H3.out]; omega
    exact ⟨_, _, rfl, by rw [fore, e0]; rfl, by rw [aft, if_pos e0], Nat.zero_le _, Nat.le_refl _, Below.refl _ _⟩
  · have hne : cutAt (bn s) ≠ 0 := by rw [← H3.out]; omega
    have hlt : r < (s.size : Int) := by
      have := (HW.out hne).2
      have h3 := H3.out
      unfold cutAt at h3
      rw [bn_length] at this h3
      omega
    obtain ⟨k, rfl⟩ : ∃ k : Nat, r = (k : Int) := ⟨r.toNat, by omega⟩
    have hk1 : 1 ≤ k := by omega
    have hks : k < s.size := by omega
    have HN := hid' hne
    clear hne
    have b1 : (0 : Int) ≤ (k : Int) + 1 := by omega
    have b2 : (k : Int) + 1 ≤ (s.size : Int) := by omega
    have b3 : (k : Int) ≤ (s.size : Int) := by omega
    have b4 : IntKind.i64.wrap ((k : Int) + 1) = (k : Int) + 1 := by simp [IntKind.wrap, IntKind.bits, IntKind.signed]; omega
    go_wp2_with fail
    go_region
    all_goals (try go_wp2)
    all_goals go_ret2
    all_goals (
      have ek : cutAt (bn s) = k := by have := H3.out; omega
      refine ⟨_, _, rfl, ?_, ?_, ?_, ?_, (Below.refl _ _).drew⟩
      · rw [bn_extract s 0 k (by omega), fore, ek]; simp
      · rw [bn_extract s (k + 1) s.size (Nat.le_refl _), aft, if_neg HN.out, ek, List.take_of_length_le (by rw [List.length_drop, bn_length]; exact Nat.le_refl _)]
      · rw [ByteArray.size_extract]; omega
      · rw [ByteArray.size_extract]; omega)
end Go.Proofs.YtdncaehajhmcoaaGreat.P
