/- four.Text: strconv.AppendUint by the shelf, for one byte. (Stage 10.) -/
import Derived.Test.YtklplalfcpigcaaDoorFT
import Derived.Laws.IdiomStrings
import Derived.Laws.OwnMore
import Derived.Shelf.Strconv.AppendUint10
namespace Go.Proofs
open Go.Shelf Go.RowKit
shelf_lay LaysM.n288 Nm 288 at Tryd as Tryd.laysAppU
end Go.Proofs
namespace Go.Proofs.YtklplalfcpigcaaDoor.F
open Go.RowKit
set_option linter.unusedVariables false

theorem Tryd.info5 : (Tryd.prog.info? 5).map (fun i => (i.zero, i.size, i.bytes)) = some (some (.int .u8 0), 1, 1) := by kernel_rfl
theorem own_sh5 {base n : Nat} {v : Value} {X : List Value} {W : World} (h : W.ownsRow base 5 1 v n X) : ∃ a cap, v = .slice a n cap := by
  rcases h.2 with ⟨rfl, h0⟩ | ⟨g, cap, cur, rfl, _⟩
  · exact ⟨none, 0, by rw [h0]⟩
  · exact ⟨_, cap, rfl⟩
def Bytes (l : List Int) : Prop := ∀ b ∈ l, 0 ≤ b ∧ b ≤ 255
theorem bytes_back : ∀ (ns : List Int), Bytes ns → (((ns.map fun n => UInt8.ofNat n.toNat).toArray).toList.map fun c => (c.toNat : Int)) = ns
  | [], _ => rfl
  | a :: l, h => by
    have ih := bytes_back l (fun b hb => h b (by simp [hb]))
    have ha := h a (by simp)
    simp only [List.map_cons] at ih ⊢
    rw [ih]
    congr 1
    simp only [UInt8.toNat_ofNat']
    omega
theorem addr_add0 (g j : Nat) : ((⟨g, 0, none⟩ : Addr).add j) = ⟨g, j, none⟩ := by
  simp [Addr.add]; exact fun h => h.symm
/-- Owned bytes as a text. -/
theorem conv_string (w : World) (base : Nat) (v : Value) (n : Nat) (ns : List Int) (hn : n = ns.length) (hb : Bytes ns) (hrow : w.ownsRow base 5 1 v n (ns.map (Value.int .u8))) :
    ∃ t : ByteArray, (convert 53 9 v).run Tryd.prog w = .ok (.string t) w ∧ bn t = ns := by
  subst hn
  rcases id hrow.2 with ⟨rfl, h0⟩ | ⟨g, cap, cur, rfl, _⟩
  · refine ⟨⟨#[]⟩, ?_, ?_⟩
    · rw [run_convert_bytes_string w 53 9 5 none 0 0 Tryd.underlying53 Tryd.underlying5 Tryd.underlying9]
      simp [Conv.bytesToString]
      rfl
    · rw [List.length_eq_zero_iff.1 h0]; rfl
  · refine ⟨⟨(ns.map fun n => UInt8.ofNat n.toNat).toArray⟩, ?_, ?_⟩
    · have := run_convert_bytes_back (P := Tryd.prog) w 53 9 5 ⟨g, 0, none⟩ cap (ns.map fun n => UInt8.ofNat n.toNat) Tryd.underlying53 Tryd.underlying5 Tryd.underlying9 (by
        intro j hj
        rw [addr_add0, hrow.cellAt j (by simpa using hj)]
        have hj' : j < ns.length := by simpa using hj
        have hbj := hb ns[j] (List.getElem_mem hj')
        rw [List.getElem?_map, List.getElem?_eq_getElem hj']
        simp only [Option.map_some, List.getElem_map, UInt8.toNat_ofNat']
        congr 2
        omega)
      rw [List.length_map] at this
      exact this
    · unfold bn
      simp only
      exact bytes_back ns hb
theorem cells_wr {u : Nat} (h : u < 256) : Lib.byteCells (Lib.decDigits u) = (wr 10 u).map (Value.int .u8) := by
  rw [← dec_wr ⟨u, h⟩]
  unfold Lib.byteCells
  rw [List.map_map]; rfl
theorem dec_len {u : Nat} (h : u < 256) : (Lib.decDigits u).length = (wr 10 u).length := by
  rw [← dec_wr ⟨u, h⟩, List.length_map]
theorem wr_bytes {u : Nat} (h : u < 256) : Bytes (wr 10 u) := by
  rw [← dec_wr ⟨u, h⟩]
  intro b hb
  obtain ⟨c, _, rfl⟩ := List.mem_map.1 hb
  have := c.toNat_lt
  omega
theorem wr_short : ∀ u : Fin 256, (wr 10 u.val).length ≤ 3 := by decide +kernel
/-- One byte in tens, behind what is there. -/
theorem appi_any (B m u c : Nat) (a : Option Addr) (X : List Int) (hu : u < 256) (w : World) (hp : Pow w) (hB : B ≤ w.heap.size) (hm : m ≤ 1000) (hown : w.ownsRow B 5 1 (.slice a m c) m (X.map (Value.int .u8))) :
    Calls Tryd.prog 41 #[.slice a m c, .int .u64 u, .int .i64 10] w fun e W' => (∃ a' c', e = .returned (.slice a' (m + (wr 10 u).length) c') ∧ W'.ownsRow B 5 1 (.slice a' (m + (wr 10 u).length) c') (m + (wr 10 u).length) ((X ++ wr 10 u).map (Value.int .u8))) ∧ Below B w W' := by
  have hf : Tryd.laysAppU_ren.f 288 = 41 := by kernel_rfl
  have ht : Tryd.laysAppU_ren.t 5 = 5 := by kernel_rfl
  have key : Calls Tryd.prog 41 #[.slice a m c, .int .u64 u, .int .i64 10] w fun e w' => ∃ v', e = .returned v' ∧ w'.ownsRow B 5 1 v' (m + (Lib.decDigits u).length) (X.map (Value.int .u8) ++ Lib.byteCells (Lib.decDigits u)) ∧ Below B w w' := by
    rw [← hf, ← ht]
    rw [← ht] at hown
    by_cases h : u < 100
    · refine (Any.internal_strconv_AppendUint_10_small Tryd.laysAppU B m u h _ _ w hown hB (by omega)).mono ?_
      rintro e w' ⟨v, h1, h2, h3, _⟩
      exact ⟨v, h1, h2, h3⟩
    · refine (Any.internal_strconv_AppendUint_10_big Tryd.laysAppU B m u (by omega) (by omega) _ _ w hown hB (by omega) ?_).mono ?_
      · unfold Lib.TabIs World.var?
        rw [show Tryd.prog.globalNamed _ = some 1 from by kernel_rfl]
        exact hp
      · rintro e w' ⟨v, h1, h2, h3, _⟩
        exact ⟨v, h1, h2, h3⟩
  refine key.mono ?_
  rintro e w' ⟨v, rfl, h2, h3⟩
  rw [cells_wr hu, dec_len hu, ← List.map_append] at h2
  obtain ⟨a', c', rfl⟩ := own_sh5 h2
  exact ⟨⟨a', c', rfl, h2⟩, h3⟩
theorem appu_any (B m u c : Nat) (a : Option Addr) (X : List Int) (hu : u < 256) (w : World) (hp : Pow w) (hB : B ≤ w.heap.size) (hm : m ≤ 1000) (hown : w.ownsRow B 5 1 (.slice a m c) m (X.map (Value.int .u8))) :
    Calls Tryd.prog 26 #[.slice a m c, .int .u64 u, .int .i64 10] w fun e W' => (∃ a' c', e = .returned (.slice a' (m + (wr 10 u).length) c') ∧ W'.ownsRow B 5 1 (.slice a' (m + (wr 10 u).length) c') (m + (wr 10 u).length) ((X ++ wr 10 u).map (Value.int .u8))) ∧ Below B w W' := by
  have H := hid (appi_any B m u c a X hu w hp hB hm hown)
  clear hp hown hB
  go_enter Tryd.func26, Tryd.ntmps26
  go_wp2_with (go_at_call 41; refine H.out.mono ?_; rintro e w4 ⟨⟨q4, c4, rfl, r4⟩, B4⟩)
  go_ret
  exact ⟨⟨q4, c4, rfl, r4⟩, B4⟩
/-! ### Text -/
/-- What has been written behind k parts. -/
def pd (a : Nat) : Nat → List Int
  | 0 => []
  | k + 1 => pd a k ++ (if 0 < k then [46] else []) ++ wr 10 (byt a k)
theorem pd_txt {a : Nat} (ha : a < 4294967296) : pd a 4 = txt a := by
  have b0 : byt a 0 = a / 16777216 := by show a / 16777216 % 256 = _; omega
  have b1 : byt a 1 = a / 65536 % 256 := rfl
  have b2 : byt a 2 = a / 256 % 256 := rfl
  have b3 : byt a 3 = a % 256 := by show a / 1 % 256 = _; omega
  have e : pd a 4 = (((([] ++ [] ++ wr 10 (byt a 0)) ++ [46] ++ wr 10 (byt a 1)) ++ [46]) ++ wr 10 (byt a 2)) ++ [46] ++ wr 10 (byt a 3) := rfl
  have f : txt a = wr 10 (a / 16777216) ++ 46 :: (wr 10 (a / 65536 % 256) ++ 46 :: (wr 10 (a / 256 % 256) ++ 46 :: wr 10 (a % 256))) := rfl
  rw [e, f, b0, b1, b2, b3]
  simp
theorem pd_bytes (a : Nat) : ∀ k, Bytes (pd a k)
  | 0 => fun b hb => by simp [pd] at hb
  | k + 1 => fun b hb => by
    rw [pd, List.mem_append, List.mem_append] at hb
    rcases hb with (hb | hb) | hb
    · exact pd_bytes a k b hb
    · split at hb
      · simp at hb; omega
      · simp at hb
    · exact wr_bytes (Nat.mod_lt _ (by decide)) b hb
set_option maxRecDepth 100000 in
set_option maxHeartbeats 8000000 in
theorem text_any (a : Nat) (ha : a < 4294967296) (w : World) (hp : Pow w) :
    Calls Tryd.prog 14 #[.int .u32 a] w fun e W' => TxtR a w e W' := by
  obtain ⟨i0, hi, hz0, hz1, hz2⟩ := info_parts Tryd.info5
  have HAP := hid appu_any
  have HWS := hid wr_short
  have HGS : Hid (∀ e W, ((∃ t, e = .returned (.string t) ∧ bn t = pd a 4) ∧ Below w.heap.size w W) → TxtR a w e W) := fun e W h => by rw [pd_txt ha] at h; exact h
  have hgs := hp.size
  have HPW : Hid (∀ W, Below w.heap.size w W → Pow W) := fun W h => hp.below hgs h
  clear hp
  go_enter Tryd.func14, Tryd.ntmps14
  go_wp2_with fail
  go_loopw [3, 5] (fun v3 v5 wr => ∃ (k m c : Nat) (q : Option Addr), k ≤ 4 ∧ m ≤ 4 * k ∧ v3 = .slice q m c ∧ v5 = .int .i64 (k : Int) ∧ Hid (m = (pd a k).length) ∧ Hid (wr.ownsRow w.heap.size 5 1 (.slice q m c) m ((pd a k).map (Value.int .u8))) ∧ Hid (Below w.heap.size w wr)) (fun _ v5 _ => (4 - intOf v5).toNat)
  case atStart => exact ⟨0, 0, 0, none, by omega, by omega, rfl, rfl, rfl, World.ownsRow_nil _ _ _ _, Below.refl _ _⟩
  case round =>
    obtain ⟨k, m, c, q, hk, hmk, rfl, rfl, HM, HR, HB⟩ := hrel
    have zj := HB.out.size
    obtain rfl | rfl | rfl | rfl | rfl : k = 0 ∨ k = 1 ∨ k = 2 ∨ k = 3 ∨ k = 4 := by omega
    · have HPN : Hid (pd a 1 = pd a 0 ++ [] ++ F.wr 10 (byt a 0)) := rfl
      have hb : byt a 0 < 256 := Nat.mod_lt _ (by decide)
      have hbz : ((byt a 0 : Nat) : Int) = ((a : Int) / 16777216) % 256 := by
        show ((a / 16777216 % 256 : Nat) : Int) = _
        omega
      have hws := HWS.out ⟨byt a 0, hb⟩
      have hws' : (F.wr 10 (byt a 0)).length ≤ 3 := hws
      obtain ⟨y, hy⟩ : ∃ y, byt a 0 = y := ⟨_, rfl⟩
      have hmod : ((a : Int) / 16777216) % 256 = (y : Int) := by rw [← hbz, hy]
      have hwr : IntKind.u8.wrap ((a : Int) / 16777216) = (y : Int) := by rw [← hmod]; simp [IntKind.wrap, IntKind.bits, IntKind.signed]
      rw [hy] at hb HPN hws'
      clear hy hbz hws HWS
      have hm0 : m = 0 := by omega
      have HP := hid (HPW.out _ HB.out)
      have HA := hid (HAP.out w.heap.size m y c q (pd a 0) hb wr HP.out HB.out.size (by omega) HR.out)
      clear hm0
      go_wp2_with (go_at_call 26; refine HA.out.mono ?_; rintro e w4 ⟨⟨q4, c4, rfl, r4⟩, B4⟩)
      go_roundw
      case rel => exact ⟨1, _, c4, q4, by omega, by omega, rfl, by go_num, by show _ = _; rw [HPN.out, List.length_append, List.length_append, HM.out]; simp, by show World.ownsRow _ _ _ _ _ _ _; rw [HPN.out, List.append_nil]; exact r4, HB.out.trans B4⟩
      case measure => simp [intOf]
    · have HPN : Hid (pd a 2 = pd a 1 ++ [46] ++ F.wr 10 (byt a 1)) := rfl
      have hb : byt a 1 < 256 := Nat.mod_lt _ (by decide)
      have hbz : ((byt a 1 : Nat) : Int) = ((a : Int) / 65536) % 256 := by
        show ((a / 65536 % 256 : Nat) : Int) = _
        omega
      have hws := HWS.out ⟨byt a 1, hb⟩
      have hws' : (F.wr 10 (byt a 1)).length ≤ 3 := hws
      obtain ⟨y, hy⟩ : ∃ y, byt a 1 = y := ⟨_, rfl⟩
      have hmod : ((a : Int) / 65536) % 256 = (y : Int) := by rw [← hbz, hy]
      have hwr : IntKind.u8.wrap ((a : Int) / 65536) = (y : Int) := by rw [← hmod]; simp [IntKind.wrap, IntKind.bits, IntKind.signed]
      rw [hy] at hb HPN hws'
      clear hy hbz hws HWS
      go_wp2_with (first
        | (at_builtin; refine wpList_append_own _ rfl _ _ 53 rfl w.heap.size 5 i0 (.int .u8 0) 1 1 Tryd.underlying53 hi hz0 hz1 hz2 rfl (by decide) _ _ _ rfl (HR.out.alloc _) ⟨wr.heap.size, 0, none⟩ 1 1 [.int .u8 46] rfl rfl (news_one _ _ _) (by simp [Value.oneCell']) (by unfold maxLen; omega) (by omega) (by simp; omega) ?_; intro v3 w3 r3 g3 _; obtain ⟨a3, c3, rfl⟩ := own_sh5 r3; have HR3 : Hid (w3.ownsRow w.heap.size 5 1 (.slice a3 (m + 1) c3) (m + 1) ((pd a 1 ++ [46]).map (Value.int .u8))) := (by show World.ownsRow _ _ _ _ _ _ _; rw [List.map_append]; exact r3); have HB3 := hid (below_grow (w1 := wr.alloc (.cells #[.int .u8 46] 5)) (HB.out.alloc HB.out.size _) (Nat.le_trans HB.out.size (by simp)) (HR.out.alloc _) g3); clear r3 g3)
        | (go_at_call 26; refine (HAP.out w.heap.size (m + 1) y c3 a3 (pd a 1 ++ [46]) hb w3 (HPW.out _ HB3.out) HB3.out.size (by omega) HR3.out).mono ?_; rintro e w4 ⟨⟨q4, c4, rfl, r4⟩, B4⟩))
      go_roundw
      case rel => exact ⟨2, _, c4, q4, by omega, by omega, rfl, by go_num, by show _ = _; rw [HPN.out, List.length_append, List.length_append, HM.out]; rfl, by show World.ownsRow _ _ _ _ _ _ _; rw [HPN.out]; exact r4, HB3.out.trans B4⟩
      case measure => simp [intOf]
    · have HPN : Hid (pd a 3 = pd a 2 ++ [46] ++ F.wr 10 (byt a 2)) := rfl
      have hb : byt a 2 < 256 := Nat.mod_lt _ (by decide)
      have hbz : ((byt a 2 : Nat) : Int) = ((a : Int) / 256) % 256 := by
        show ((a / 256 % 256 : Nat) : Int) = _
        omega
      have hws := HWS.out ⟨byt a 2, hb⟩
      have hws' : (F.wr 10 (byt a 2)).length ≤ 3 := hws
      obtain ⟨y, hy⟩ : ∃ y, byt a 2 = y := ⟨_, rfl⟩
      have hmod : ((a : Int) / 256) % 256 = (y : Int) := by rw [← hbz, hy]
      have hwr : IntKind.u8.wrap ((a : Int) / 256) = (y : Int) := by rw [← hmod]; simp [IntKind.wrap, IntKind.bits, IntKind.signed]
      rw [hy] at hb HPN hws'
      clear hy hbz hws HWS
      go_wp2_with (first
        | (at_builtin; refine wpList_append_own _ rfl _ _ 53 rfl w.heap.size 5 i0 (.int .u8 0) 1 1 Tryd.underlying53 hi hz0 hz1 hz2 rfl (by decide) _ _ _ rfl (HR.out.alloc _) ⟨wr.heap.size, 0, none⟩ 1 1 [.int .u8 46] rfl rfl (news_one _ _ _) (by simp [Value.oneCell']) (by unfold maxLen; omega) (by omega) (by simp; omega) ?_; intro v3 w3 r3 g3 _; obtain ⟨a3, c3, rfl⟩ := own_sh5 r3; have HR3 : Hid (w3.ownsRow w.heap.size 5 1 (.slice a3 (m + 1) c3) (m + 1) ((pd a 2 ++ [46]).map (Value.int .u8))) := (by show World.ownsRow _ _ _ _ _ _ _; rw [List.map_append]; exact r3); have HB3 := hid (below_grow (w1 := wr.alloc (.cells #[.int .u8 46] 5)) (HB.out.alloc HB.out.size _) (Nat.le_trans HB.out.size (by simp)) (HR.out.alloc _) g3); clear r3 g3)
        | (go_at_call 26; refine (HAP.out w.heap.size (m + 1) y c3 a3 (pd a 2 ++ [46]) hb w3 (HPW.out _ HB3.out) HB3.out.size (by omega) HR3.out).mono ?_; rintro e w4 ⟨⟨q4, c4, rfl, r4⟩, B4⟩))
      go_roundw
      case rel => exact ⟨3, _, c4, q4, by omega, by omega, rfl, by go_num, by show _ = _; rw [HPN.out, List.length_append, List.length_append, HM.out]; rfl, by show World.ownsRow _ _ _ _ _ _ _; rw [HPN.out]; exact r4, HB3.out.trans B4⟩
      case measure => simp [intOf]
    · have HPN : Hid (pd a 4 = pd a 3 ++ [46] ++ F.wr 10 (byt a 3)) := rfl
      have hb : byt a 3 < 256 := Nat.mod_lt _ (by decide)
      have hbz : ((byt a 3 : Nat) : Int) = (a : Int) % 256 := by
        show ((a / 1 % 256 : Nat) : Int) = _
        omega
      have hws := HWS.out ⟨byt a 3, hb⟩
      have hws' : (F.wr 10 (byt a 3)).length ≤ 3 := hws
      obtain ⟨y, hy⟩ : ∃ y, byt a 3 = y := ⟨_, rfl⟩
      have hmod : (a : Int) % 256 = (y : Int) := by rw [← hbz, hy]
      have hwr : IntKind.u8.wrap (a : Int) = (y : Int) := by rw [← hmod]; simp [IntKind.wrap, IntKind.bits, IntKind.signed]
      rw [hy] at hb HPN hws'
      clear hy hbz hws HWS
      go_wp2_with (first
        | (at_builtin; refine wpList_append_own _ rfl _ _ 53 rfl w.heap.size 5 i0 (.int .u8 0) 1 1 Tryd.underlying53 hi hz0 hz1 hz2 rfl (by decide) _ _ _ rfl (HR.out.alloc _) ⟨wr.heap.size, 0, none⟩ 1 1 [.int .u8 46] rfl rfl (news_one _ _ _) (by simp [Value.oneCell']) (by unfold maxLen; omega) (by omega) (by simp; omega) ?_; intro v3 w3 r3 g3 _; obtain ⟨a3, c3, rfl⟩ := own_sh5 r3; have HR3 : Hid (w3.ownsRow w.heap.size 5 1 (.slice a3 (m + 1) c3) (m + 1) ((pd a 3 ++ [46]).map (Value.int .u8))) := (by show World.ownsRow _ _ _ _ _ _ _; rw [List.map_append]; exact r3); have HB3 := hid (below_grow (w1 := wr.alloc (.cells #[.int .u8 46] 5)) (HB.out.alloc HB.out.size _) (Nat.le_trans HB.out.size (by simp)) (HR.out.alloc _) g3); clear r3 g3)
        | (go_at_call 26; refine (HAP.out w.heap.size (m + 1) y c3 a3 (pd a 3 ++ [46]) hb w3 (HPW.out _ HB3.out) HB3.out.size (by omega) HR3.out).mono ?_; rintro e w4 ⟨⟨q4, c4, rfl, r4⟩, B4⟩))
      go_roundw
      case rel => exact ⟨4, _, c4, q4, by omega, by omega, rfl, by go_num, by show _ = _; rw [HPN.out, List.length_append, List.length_append, HM.out]; rfl, by show World.ownsRow _ _ _ _ _ _ _; rw [HPN.out]; exact r4, HB3.out.trans B4⟩
      case measure => simp [intOf]
    · obtain ⟨t, hcv, htb⟩ := conv_string wr w.heap.size _ _ (pd a 4) HM.out (pd_bytes a 4) HR.out
      have HTB := hid htb
      clear htb HM HR HAP HWS HPW
      go_wp2
      go_ret
      exact HGS.out _ _ ⟨⟨t, rfl, HTB.out⟩, HB.out⟩
end Go.Proofs.YtklplalfcpigcaaDoor.F
