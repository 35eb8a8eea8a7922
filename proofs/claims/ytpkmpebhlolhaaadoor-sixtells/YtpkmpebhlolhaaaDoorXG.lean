/- The document's pieces. (Stage 11.) -/
import Derived.Test.YtpkmpebhlolhaaaDoorXF
namespace Go.Proofs.YtpkmpebhlolhaaaDoor.X
open Go.RowKit
open Go.Proofs.YtpkmpebhlolhaaaDoor.F (hx hx_bd vl bn bn_length bn_append bn_inj bn_get byte_bd hid bn_extract isEmpty_false isEmpty_true str_eq same_eq)
set_option linter.unusedVariables false

/-! ### Plain: row by row -/
/-- Where the loop stands. -/
def PJ (last : Bool) (ps : List (List Int)) (i : Nat) (out : List Nat) : Prop := (i < ps.length → pcs last ps = (pcs last (ps.drop i)).map (out ++ ·)) ∧ (i = ps.length → pcs last ps = some out)
theorem PJ.start {last : Bool} {ps : List (List Int)} (h : ps ≠ []) : PJ last ps 0 [] := ⟨fun _ => by simp, fun e => absurd (List.length_eq_zero_iff.1 e.symm) h⟩
theorem drop_at {ps : List (List Int)} {i : Nat} (h : i < ps.length) : ps.drop i = ps[i]?.getD [] :: ps.drop (i + 1) := by
  rw [List.drop_eq_getElem_cons h, List.getElem?_eq_getElem h]; rfl
theorem PJ.mid {last : Bool} {ps : List (List Int)} {i : Nat} {out : List Nat} (hi : i + 1 < ps.length) (h : PJ last ps i out) : (pc (ps[i]?.getD []) = none → pcs last ps = none) ∧ (∀ v, pc (ps[i]?.getD []) = some v → PJ last ps (i + 1) (out ++ [v])) := by
  have e := h.1 (by omega)
  rw [drop_at (by omega), drop_at hi] at e
  have e2 : pcs last (ps[i]?.getD [] :: ps[i + 1]?.getD [] :: ps.drop (i + 1 + 1)) = put (pc (ps[i]?.getD [])) (pcs last (ps.drop (i + 1))) := by
    rw [drop_at hi]; rfl
  rw [e2] at e
  refine ⟨fun hn => by rw [e, hn]; rfl, fun v hv => ⟨fun _ => ?_, fun hh => by omega⟩⟩
  rw [e, hv]
  cases pcs last (ps.drop (i + 1)) with
  | none => rfl
  | some l => simp [put]
theorem PJ.end {last : Bool} {ps : List (List Int)} {i : Nat} {out : List Nat} (hi : i + 1 = ps.length) (h : PJ last ps i out) : pcs last ps = (lst last (ps[i]?.getD [])).map (out ++ ·) := by
  have e := h.1 (by omega)
  rw [drop_at (by omega), List.drop_eq_nil_of_le (by omega)] at e
  exact e
theorem PJ.fin {last : Bool} {ps : List (List Int)} {i : Nat} {out : List Nat} (hi : i = ps.length) (h : pcs last ps = some out) : PJ last ps i out := ⟨fun hh => by omega, fun _ => h⟩
theorem sp_len (b : Int) : ∀ (l p : List Int), p ∈ spB b l → p.length ≤ l.length
  | [], p, h => by simp [spB] at h; simp [h]
  | c :: l, p, h => by
    rw [spB] at h
    split at h
    · rcases List.mem_cons.1 h with rfl | h
      · simp
      · have := sp_len b l p h; simp; omega
    · rcases List.mem_cons.1 h with rfl | h
      · have h1 : (spB b l).headD [] ∈ spB b l := by
          cases h2 : spB b l with
          | nil => exact absurd h2 (sp_ne b l)
          | cons x r => simp
        have := sp_len b l _ h1
        exact Nat.succ_le_succ this
      · have := sp_len b l p (List.mem_of_mem_tail h); simp; omega
theorem sp_cnt (b : Int) : ∀ (l : List Int), (spB b l).length ≤ l.length + 1
  | [] => by simp [spB]
  | c :: l => by
    have ih := sp_cnt b l
    rw [spB]
    split
    · simp; omega
    · simp; omega
theorem Tryd.info16 : (Tryd.prog.info? 22).map (fun i => (i.zero, i.size, i.bytes)) = some (some (.int .u16 0), 1, 2) := by kernel_rfl
theorem own_sh16 {base n : Nat} {v : Value} {X : List Value} {W : World} (h : W.ownsRow base 22 1 v n X) : ∃ a cap, v = .slice a n cap := by
  rcases h.2 with ⟨rfl, h0⟩ | ⟨g, cap, cur, rfl, _⟩
  · exact ⟨none, 0, by rw [h0]⟩
  · exact ⟨_, cap, rfl⟩
def u16s (L : List Nat) : List Value := L.map (fun x : Nat => Value.int .u16 x)
theorem own_cells16 {W : World} {base n c : Nat} {a : Option Addr} {L : List Nat} (hn : n = L.length) (h : W.ownsRow base 22 1 (.slice a n c) n (u16s L)) : 0 < n → ∃ b, base ≤ b ∧ a = some ⟨b, 0, none⟩ ∧ ∀ j, j < n → W.cell? ⟨b, j, none⟩ = some (.int .u16 ((L[j]?.getD 0 : Nat) : Int)) := by
  intro hp
  rcases h.2 with ⟨e, h0⟩ | ⟨g, cap, cur, e, hg, h3, h4⟩
  · omega
  · cases e
    refine ⟨g, hg, rfl, fun j hj => ?_⟩
    unfold u16s at h
    rw [h.cellAt j (by omega), List.getElem?_map, List.getElem?_eq_getElem (by omega)]; rfl
theorem two_cells {W : World} {g : Nat} {u v : Value} (h0 : W.cell? ⟨g, 0, none⟩ = some u) (h1 : W.cell? ⟨g, 1, none⟩ = some v) : ∀ (j : Nat) (z : Value), [u, v][j]? = some z → W.cell? ((⟨g, 0, none⟩ : Addr).add j) = some z := by
  intro j z hz
  have e : (⟨g, 0, none⟩ : Addr).add j = ⟨g, j, none⟩ := by unfold Addr.add; split <;> simp_all
  rw [e]
  match j, hz with
  | 0, hz => simp at hz; rw [← hz]; exact h0
  | 1, hz => simp at hz; rw [← hz]; exact h1
  | j + 2, hz => simp at hz
theorem ownsRow_below {base B : Nat} {e : TypeId} {size : Nat} {v : Value} {n : Nat} {xs : List Value} {w w' : World} (h : w.ownsRow base e size v n xs) (hb : Below B w w') (hB : w.heap.size ≤ B) : w'.ownsRow base e size v n xs := by
  rcases h with ⟨h1, ⟨rfl, h2⟩ | ⟨g, cap, cur, rfl, hbg, hg, h3⟩⟩
  · exact ⟨h1, .inl ⟨rfl, h2⟩⟩
  · have hlt : g < w.heap.size := (Array.getElem?_eq_some_iff.1 hg).1
    exact ⟨h1, .inr ⟨g, cap, cur, rfl, hbg, (hb.block g (by omega)).trans hg, h3⟩⟩
/-- What pieces answers. -/
def PcsR (last : Bool) (l : List Int) (w : World) (e : Ending) (W' : World) : Prop :=
  ((pieces last l = none ∧ e = .returned (.tuple #[.slice none 0 0, .bool false])) ∨ (∃ L a c, pieces last l = some L ∧ e = .returned (.tuple #[.slice a L.length c, .bool true]) ∧ (0 < L.length → ∃ b, w.heap.size ≤ b ∧ a = some ⟨b, 0, none⟩ ∧ ∀ j, j < L.length → W'.cell? ⟨b, j, none⟩ = some (.int .u16 ((L[j]?.getD 0 : Nat) : Int))))) ∧ Below w.heap.size w W'
set_option maxRecDepth 100000 in
set_option maxHeartbeats 8000000 in
theorem rpieces_any (s : ByteArray) (last : Bool) (w : World) (hs : s.size ≤ 100000) :
    Calls Tryd.prog 18 #[.string s, .bool last] w fun e W' => PcsR last (bn s) w e W' := by
  obtain ⟨i0, hi0, hz0, hz1, hz2⟩ := info_parts Tryd.info16
  have HNO : Hid (∀ W, pieces last (bn s) = none → Below w.heap.size w W → PcsR last (bn s) w (.returned (.tuple #[.slice none 0 0, .bool false])) W) := fun W h hB => ⟨.inl ⟨h, rfl⟩, hB⟩
  by_cases h0 : s.size = 0
  · have he : s.toList.isEmpty = true := isEmpty_true s h0
    have HE : Hid (PcsR last (bn s) w (.returned (.tuple #[.slice none 0 0, .bool true])) w) := by
      have hb : bn s = [] := List.length_eq_zero_iff.1 (by rw [bn_length]; exact h0)
      refine ⟨.inr ⟨[], none, 0, ?_, rfl, fun h => by simp at h⟩, Below.refl _ _⟩
      unfold pieces; rw [if_pos hb]
    go_enter Tryd.func18, Tryd.ntmps18
    go_wp2
    go_ret2
    exact HE.out
  have he : s.toList.isEmpty = false := isEmpty_false s (by omega)
  have HPC : Hid (pieces last (bn s) = pcs last (spB 58 (bn s))) := by
    show _ = _
    unfold pieces
    rw [if_neg (fun e => by have := congrArg List.length e; rw [bn_length] at this; exact h0 this)]
  have HSP := hid (rsplit_any s 58 w hs)
  go_enter Tryd.func18, Tryd.ntmps18
  go_wp2_with fail
  refine HSP.out.mono ?_
  rintro e w1 ⟨⟨g, c, qs, rfl, hne, hqs, hcb⟩, B1⟩
  have HB1 := hid B1
  have z1 := B1.size
  have HPS : Hid (pieces last (bn s) = pcs last (qs.map bn)) := by show _ = _; rw [HPC.out, hqs]
  have HCB := hid hcb
  have HSZ : Hid (∀ i, i < qs.length → (qs[i]?.getD ⟨#[]⟩).size ≤ 100000) := fun i hi => by
    have h1 : bn (qs[i]?.getD ⟨#[]⟩) ∈ spB 58 (bn s) := by
      rw [← hqs, List.getElem?_eq_getElem hi]
      exact List.mem_map.2 ⟨_, List.getElem_mem hi, rfl⟩
    have := sp_len 58 _ _ h1
    rw [bn_length, bn_length] at this
    omega
  have HN2 : Hid (qs.length ≤ 100001) := by
    have h1 := sp_cnt 58 (bn s)
    rw [← hqs, List.length_map, bn_length] at h1
    show _ ≤ _
    omega
  have hn2 := HN2.out
  have HAT : Hid (∀ i, i < qs.length → (qs.map bn)[i]?.getD [] = bn (qs[i]?.getD ⟨#[]⟩)) := fun i hi => by
    rw [List.getElem?_map, List.getElem?_eq_getElem hi]; rfl
  have HST : Hid (PJ last (qs.map bn) 0 []) := PJ.start (by simpa using hne)
  have HLN : Hid ((qs.map bn).length = qs.length) := by show _ = _; simp
  have hq1 := List.length_pos_iff.2 hne
  obtain ⟨ps, hps⟩ : ∃ ps, qs.map bn = ps := ⟨_, rfl⟩
  rw [hps] at HPS HAT HST HLN
  obtain ⟨n, hn⟩ : ∃ n, qs.length = n := ⟨_, rfl⟩
  rw [hn] at HCB HSZ hn2 HAT HLN hq1 ⊢
  clear hcb hqs hne hps hn HPC HSP B1 HN2
  go_wp2_with fail
  go_loopw [7, 8] (fun v7 v8 wr => ∃ (i m c' : Nat) (a : Option Addr) (L : List Nat), i ≤ n ∧ m ≤ i + 1 ∧ (i < n → m ≤ i) ∧ v7 = .slice a m c' ∧ v8 = .int .i64 i ∧ Hid (m = L.length) ∧ Hid (PJ last ps i L) ∧ Hid (wr.ownsRow w1.heap.size 22 1 (.slice a m c') m (u16s L)) ∧ Hid (Below w1.heap.size w1 wr)) (fun _ v8 _ => n - (intOf v8).toNat)
  case atStart => exact ⟨0, 0, 0, none, [], Nat.zero_le _, Nat.zero_le _, fun _ => Nat.le_refl _, rfl, rfl, rfl, HST, World.ownsRow_nil _ _ _ _, Below.refl _ _⟩
  case round =>
    obtain ⟨i, m, c', a, L, hi, hm, hmi, rfl, rfl, HM, HJ, HR, HB⟩ := hrel
    have zj := HB.out.size
    by_cases hlt : i < n
    · have hmi2 := hmi hlt
      have hcw := HCB.out i hlt
      have hgl := lt_cell hcw
      simp only at hgl
      have HCR : Hid (∀ W, Below w1.heap.size w1 W → W.cell? ⟨g, i, none⟩ = some (.string (qs[i]?.getD ⟨#[]⟩))) := fun W h => (h.cell (p := ⟨g, i, none⟩) hgl).trans hcw
      have HSI := HSZ.out i hlt
      have HA1 := hid (HAT.out i hlt)
      obtain ⟨D, hD⟩ : ∃ D, qs[i]?.getD ⟨#[]⟩ = D := ⟨_, rfl⟩
      rw [hD] at HCR HSI HA1
      have hcr := HCR.out _ HB.out
      have HPI := hid (fun W => rpiece_any D W HSI)
      have HDI := hid (fun W => rdotted_any D W HSI)
      have hltz : (i : Int) < (n : Int) := by omega
      clear hcw hD HSZ HCB HAT
      by_cases hend : i + 1 < n
      · obtain ⟨hmn, hms⟩ := HJ.out.mid (by rw [HLN.out]; exact hend)
        rw [HA1.out] at hmn hms
        have HNONE : Hid (pc (bn D) = none → pieces last (bn s) = none) := fun h => HPS.out.trans (hmn h)
        have HSOME := hid hms
        have HBx := HB
        have HRx := HR
        have hei : ((i : Int) == (n : Int) - 1) = false := by simp; omega
        clear hmn hms
        cases last with
        | true =>
          obtain ⟨P, hP⟩ : ∃ P, pc (bn D) = P := ⟨_, rfl⟩
          have HPI2 := HPI
          unfold PcR at HPI2
          rw [hP] at HPI2 HNONE HSOME
          clear hP
          cases P with
          | none =>
            have HN := hid (HNONE.out rfl)
            have HBL := hid (HB1.out.trans (HBx.out.mono z1))
            simp only [Option.getD_none, Option.isSome_none] at HPI2
            clear HNONE HSOME HPI HDI HCR HR HJ
            go_wp2_with (go_at_call 30; refine (HPI2.out _).mono ?_; rintro e w2 ⟨rfl, hw2⟩; obtain rfl := hw2.symm)
            go_ret2
            exact HNO.out _ HN.out HBL.out
          | some v =>
            have HJ2 := hid (HSOME.out v rfl)
            simp only [Option.getD_some, Option.isSome_some] at HPI2
            clear HNONE HSOME HPI HDI HJ
            go_wp2_with (first
              | (go_at_call 30; refine (HPI2.out _).mono ?_; rintro e w2 ⟨rfl, hw2⟩; obtain rfl := hw2.symm)
              | (at_builtin; refine wpList_append_own _ rfl _ _ 37 rfl w1.heap.size 22 i0 (.int .u16 0) 1 2 Tryd.underlying37 hi0 hz0 hz1 hz2 rfl (by decide) _ _ _ rfl (HRx.out.alloc _) ⟨wr.heap.size, 0, none⟩ 1 1 [.int .u16 (v : Nat)] rfl rfl (news_one _ _ _) (by simp [Value.oneCell']) (by unfold maxLen; omega) (by omega) (by simp; omega) ?_; intro v3 w3 r3 g3 _; obtain ⟨a3, c3, rfl⟩ := own_sh16 r3))
            go_roundw
            case rel =>
              refine ⟨i + 1, m + 1, c3, a3, L ++ [v], by omega, by omega, fun _ => by omega, rfl, by go_num, by show _ = _; rw [List.length_append, ← HM.out]; rfl, HJ2, ?_, below_grow (w1 := wr.alloc (.cells #[.int .u16 (v : Nat)] 22)) (HBx.out.alloc HBx.out.size _) (Nat.le_trans HBx.out.size (by simp)) (HRx.out.alloc _) g3⟩
              show World.ownsRow _ _ _ _ _ _ _
              unfold u16s
              rw [List.map_append]; exact r3
            case measure => simp [intOf]; omega
        | false =>
          obtain ⟨P, hP⟩ : ∃ P, pc (bn D) = P := ⟨_, rfl⟩
          have HPI2 := HPI
          unfold PcR at HPI2
          rw [hP] at HPI2 HNONE HSOME
          clear hP
          cases P with
          | none =>
            have HN := hid (HNONE.out rfl)
            have HBL := hid (HB1.out.trans (HBx.out.mono z1))
            simp only [Option.getD_none, Option.isSome_none] at HPI2
            clear HNONE HSOME HPI HDI HCR HR HJ
            go_wp2_with (go_at_call 30; refine (HPI2.out _).mono ?_; rintro e w2 ⟨rfl, hw2⟩; obtain rfl := hw2.symm)
            go_ret2
            exact HNO.out _ HN.out HBL.out
          | some v =>
            have HJ2 := hid (HSOME.out v rfl)
            simp only [Option.getD_some, Option.isSome_some] at HPI2
            clear HNONE HSOME HPI HDI HJ
            go_wp2_with (first
              | (go_at_call 30; refine (HPI2.out _).mono ?_; rintro e w2 ⟨rfl, hw2⟩; obtain rfl := hw2.symm)
              | (at_builtin; refine wpList_append_own _ rfl _ _ 37 rfl w1.heap.size 22 i0 (.int .u16 0) 1 2 Tryd.underlying37 hi0 hz0 hz1 hz2 rfl (by decide) _ _ _ rfl (HRx.out.alloc _) ⟨wr.heap.size, 0, none⟩ 1 1 [.int .u16 (v : Nat)] rfl rfl (news_one _ _ _) (by simp [Value.oneCell']) (by unfold maxLen; omega) (by omega) (by simp; omega) ?_; intro v3 w3 r3 g3 _; obtain ⟨a3, c3, rfl⟩ := own_sh16 r3))
            go_roundw
            case rel =>
              refine ⟨i + 1, m + 1, c3, a3, L ++ [v], by omega, by omega, fun _ => by omega, rfl, by go_num, by show _ = _; rw [List.length_append, ← HM.out]; rfl, HJ2, ?_, below_grow (w1 := wr.alloc (.cells #[.int .u16 (v : Nat)] 22)) (HBx.out.alloc HBx.out.size _) (Nat.le_trans HBx.out.size (by simp)) (HRx.out.alloc _) g3⟩
              show World.ownsRow _ _ _ _ _ _ _
              unfold u16s
              rw [List.map_append]; exact r3
            case measure => simp [intOf]; omega
      · have HEND := hid (HJ.out.end (by rw [HLN.out]; omega))
        rw [HA1.out] at HEND
        have hei : ((i : Int) == (n : Int) - 1) = true := by simp; omega
        have HFI : Hid (∀ M, pcs last ps = some M → PJ last ps (i + 1) M) := fun M h => PJ.fin (by rw [HLN.out]; omega) h
        cases last with
        | false =>
          have HNONE : Hid (pc (bn D) = none → pieces false (bn s) = none) := fun h => HPS.out.trans (by rw [HEND.out]; unfold lst; simp [h])
          have HSOME : Hid (∀ v, pc (bn D) = some v → PJ false ps (i + 1) (L ++ [v])) := fun v h => HFI.out _ (by rw [HEND.out]; unfold lst; simp [h])
          have HBx := HB
          have HRx := HR
          clear HEND HFI
          obtain ⟨P, hP⟩ : ∃ P, pc (bn D) = P := ⟨_, rfl⟩
          have HPI2 := HPI
          unfold PcR at HPI2
          rw [hP] at HPI2 HNONE HSOME
          clear hP
          cases P with
          | none =>
            have HN := hid (HNONE.out rfl)
            have HBL := hid (HB1.out.trans (HBx.out.mono z1))
            simp only [Option.getD_none, Option.isSome_none] at HPI2
            clear HNONE HSOME HPI HDI HCR HR HJ
            go_wp2_with (go_at_call 30; refine (HPI2.out _).mono ?_; rintro e w2 ⟨rfl, hw2⟩; obtain rfl := hw2.symm)
            go_ret2
            exact HNO.out _ HN.out HBL.out
          | some v =>
            have HJ2 := hid (HSOME.out v rfl)
            simp only [Option.getD_some, Option.isSome_some] at HPI2
            clear HNONE HSOME HPI HDI HJ
            go_wp2_with (first
              | (go_at_call 30; refine (HPI2.out _).mono ?_; rintro e w2 ⟨rfl, hw2⟩; obtain rfl := hw2.symm)
              | (at_builtin; refine wpList_append_own _ rfl _ _ 37 rfl w1.heap.size 22 i0 (.int .u16 0) 1 2 Tryd.underlying37 hi0 hz0 hz1 hz2 rfl (by decide) _ _ _ rfl (HRx.out.alloc _) ⟨wr.heap.size, 0, none⟩ 1 1 [.int .u16 (v : Nat)] rfl rfl (news_one _ _ _) (by simp [Value.oneCell']) (by unfold maxLen; omega) (by omega) (by simp; omega) ?_; intro v3 w3 r3 g3 _; obtain ⟨a3, c3, rfl⟩ := own_sh16 r3))
            go_roundw
            case rel =>
              refine ⟨i + 1, m + 1, c3, a3, L ++ [v], by omega, by omega, fun _ => by omega, rfl, by go_num, by show _ = _; rw [List.length_append, ← HM.out]; rfl, HJ2, ?_, below_grow (w1 := wr.alloc (.cells #[.int .u16 (v : Nat)] 22)) (HBx.out.alloc HBx.out.size _) (Nat.le_trans HBx.out.size (by simp)) (HRx.out.alloc _) g3⟩
              show World.ownsRow _ _ _ _ _ _ _
              unfold u16s
              rw [List.map_append]; exact r3
            case measure => simp [intOf]; omega
        | true =>
          have HNONE : Hid (dt (bn D) = none → pc (bn D) = none → pieces true (bn s) = none) := fun h1 h => HPS.out.trans (by rw [HEND.out]; unfold lst; simp [h, h1])
          have HSOME : Hid (dt (bn D) = none → ∀ v, pc (bn D) = some v → PJ true ps (i + 1) (L ++ [v])) := fun h1 v h => HFI.out _ (by rw [HEND.out]; unfold lst; simp [h, h1])
          have HDSOM : Hid (∀ x y, dt (bn D) = some [x, y] → PJ true ps (i + 1) (L ++ [x, y])) := fun x y h => HFI.out _ (by rw [HEND.out]; unfold lst; simp [h])
          clear HEND HFI
          go_wp2_with fail
          refine (HDI.out _).mono ?_
          rintro e wd ⟨hd, Bd⟩
          have HBx := hid (HB.out.trans (Bd.mono HB.out.size))
          have HRx := hid (ownsRow_below HR.out Bd (Nat.le_refl _))
          have zd := HBx.out.size
          have hcd := HCR.out _ HBx.out
          clear Bd HR HB hcr
          rcases hd with ⟨hdn, rfl⟩ | ⟨g2, c2, x, y, hds, hx6, hy6, rfl, hx1, hy1⟩
          · replace HNONE := hid (HNONE.out hdn)
            replace HSOME := hid (HSOME.out hdn)
            have HR := HRx
            clear HDSOM hdn
            obtain ⟨P, hP⟩ : ∃ P, pc (bn D) = P := ⟨_, rfl⟩
            have HPI2 := HPI
            unfold PcR at HPI2
            rw [hP] at HPI2 HNONE HSOME
            clear hP
            cases P with
            | none =>
              have HN := hid (HNONE.out rfl)
              have HBL := hid (HB1.out.trans (HBx.out.mono z1))
              simp only [Option.getD_none, Option.isSome_none] at HPI2
              clear HNONE HSOME HPI HDI HCR HR HJ
              go_wp2_with (go_at_call 30; refine (HPI2.out _).mono ?_; rintro e w2 ⟨rfl, hw2⟩; obtain rfl := hw2.symm)
              go_ret2
              exact HNO.out _ HN.out HBL.out
            | some v =>
              have HJ2 := hid (HSOME.out v rfl)
              simp only [Option.getD_some, Option.isSome_some] at HPI2
              clear HNONE HSOME HPI HDI HJ
              go_wp2_with (first
                | (go_at_call 30; refine (HPI2.out _).mono ?_; rintro e w2 ⟨rfl, hw2⟩; obtain rfl := hw2.symm)
                | (at_builtin; refine wpList_append_own _ rfl _ _ 37 rfl w1.heap.size 22 i0 (.int .u16 0) 1 2 Tryd.underlying37 hi0 hz0 hz1 hz2 rfl (by decide) _ _ _ rfl (HRx.out.alloc _) ⟨wd.heap.size, 0, none⟩ 1 1 [.int .u16 (v : Nat)] rfl rfl (news_one _ _ _) (by simp [Value.oneCell']) (by unfold maxLen; omega) (by omega) (by simp; omega) ?_; intro v3 w3 r3 g3 _; obtain ⟨a3, c3, rfl⟩ := own_sh16 r3))
              go_roundw
              case rel =>
                refine ⟨i + 1, m + 1, c3, a3, L ++ [v], by omega, by omega, fun _ => by omega, rfl, by go_num, by show _ = _; rw [List.length_append, ← HM.out]; rfl, HJ2, ?_, below_grow (w1 := wd.alloc (.cells #[.int .u16 (v : Nat)] 22)) (HBx.out.alloc HBx.out.size _) (Nat.le_trans HBx.out.size (by simp)) (HRx.out.alloc _) g3⟩
                show World.ownsRow _ _ _ _ _ _ _
                unfold u16s
                rw [List.map_append]; exact r3
              case measure => simp [intOf]; omega
          · have HJ2 := hid (HDSOM.out x y hds)
            clear HNONE HSOME HDSOM hds HPI HDI HJ
            go_wp2_with (at_builtin; refine wpList_append_own _ rfl _ _ 37 rfl w1.heap.size 22 i0 (.int .u16 0) 1 2 Tryd.underlying37 hi0 hz0 hz1 hz2 rfl (by decide) _ _ _ rfl HRx.out ⟨g2, 0, none⟩ 2 c2 [.int .u16 (x : Nat), .int .u16 (y : Nat)] rfl rfl (two_cells hx1 hy1) (by simp [Value.oneCell']) (by unfold maxLen; omega) (by omega) (by omega) ?_; intro v3 w3 r3 g3 _; obtain ⟨a3, c3, rfl⟩ := own_sh16 r3)
            go_roundw
            case rel =>
              refine ⟨i + 1, m + 2, c3, a3, L ++ [x, y], by omega, by omega, fun _ => by omega, rfl, by go_num, by show _ = _; rw [List.length_append, ← HM.out]; rfl, HJ2, ?_, below_grow (w1 := wd) HBx.out HBx.out.size HRx.out g3⟩
              show World.ownsRow _ _ _ _ _ _ _
              unfold u16s
              rw [List.map_append]; exact r3
            case measure => simp [intOf]; omega
    · have hin : i = n := by omega
      have HF := hid (HJ.out.2 (by rw [HLN.out]; exact hin))
      have HBL := hid (HB1.out.trans (HB.out.mono z1))
      have HEN : Hid (PcsR last (bn s) w (.returned (.tuple #[.slice a m c', .bool true])) wr) := by
        refine ⟨.inr ⟨L, a, c', HPS.out.trans HF.out, by rw [HM.out], fun h => ?_⟩, HBL.out⟩
        obtain ⟨b, hb, ha, hc⟩ := own_cells16 HM.out HR.out (by rw [HM.out]; exact h)
        rw [HM.out] at hc
        exact ⟨b, Nat.le_trans z1 hb, ha, hc⟩
      have hltz : ¬ (i : Int) < (n : Int) := by omega
      clear HJ HR HF HCB HSZ HAT
      go_wp2
      go_ret2
      exact HEN.out
end Go.Proofs.YtpkmpebhlolhaaaDoor.X
