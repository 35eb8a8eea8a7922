/- The contract of Text: the text of the normal form; and of Count. -/
import Derived.Test.YtlgnnljleooenaaDoorN
import Derived.Test.YtlgnnljleooenaaDoorL
import Derived.Laws.IdiomStrings
namespace Go.Proofs.YtlgnnljleooenaaDoor
open Go.RowKit Go.Shelf
set_option linter.unusedVariables false

def txt1 (s : Sp) : List Int := hx s.1.toNat ++ (if s.2 = s.1 then [] else 45 :: hx s.2.toNat)
def txt : List Sp → List Int
  | [] => []
  | s :: t => txt1 s ++ t.flatMap fun s => 44 :: txt1 s
theorem txt_one (l : List Sp) (s : Sp) (h : 0 < l.length) : txt (l ++ [s]) = txt l ++ 44 :: txt1 s := by
  rcases l with _ | ⟨a, l⟩
  · simp at h
  · simp [txt]
theorem hexd_bd (n : Nat) (h : n < 16) : 0 ≤ hexd n ∧ hexd n ≤ 255 := by unfold hexd; split <;> omega
theorem hxf_bytes : ∀ f n, n < 16 ^ (f + 1) → ∀ c ∈ hxf f n, 0 ≤ c ∧ c ≤ 255 := by
  intro f
  induction f with
  | zero => intro n h c hc; simp [hxf] at hc; subst hc; exact hexd_bd n (by simpa using h)
  | succ f ih =>
    intro n h c hc
    rw [hxf] at hc
    split at hc
    · simp at hc; subst hc; exact hexd_bd n (by assumption)
    · rcases List.mem_append.1 hc with hc | hc
      · exact ih (n / 16) (by rw [Nat.pow_succ] at h; omega) c hc
      · simp at hc; subst hc; exact hexd_bd _ (by omega)
theorem hxf_len : ∀ f n, 1 ≤ (hxf f n).length ∧ (hxf f n).length ≤ f + 1 := by
  intro f
  induction f with
  | zero => intro n; simp [hxf]
  | succ f ih =>
    intro n
    rw [hxf]; split
    · simp
    · have := ih (n / 16); simp; omega
theorem hx_len (n : Nat) : (hx n).length ≤ 9 := (hxf_len 8 n).2
theorem hx_bytes (n : Nat) (h : n ≤ 1114111) : ∀ c ∈ hx n, 0 ≤ c ∧ c ≤ 255 := hxf_bytes 8 n (Nat.lt_of_le_of_lt h (by decide))
theorem txt1_len (s : Sp) : (txt1 s).length ≤ 19 := by
  unfold txt1
  have := hx_len s.1.toNat
  have := hx_len s.2.toNat
  split <;> simp <;> omega
theorem txt1_bytes (s : Sp) (h : ok1 s = true) : ∀ c ∈ txt1 s, 0 ≤ c ∧ c ≤ 255 := by
  have hk := ok1_true_of s h
  intro c hc
  unfold txt1 at hc
  rcases List.mem_append.1 hc with hc | hc
  · exact hx_bytes _ (by omega) c hc
  · split at hc
    · cases hc
    · rcases List.mem_cons.1 hc with rfl | hc
      · omega
      · exact hx_bytes _ (by omega) c hc
theorem txt_len (l : List Sp) : (txt l).length ≤ 20 * l.length := by
  have tail : ∀ t : List Sp, (t.flatMap fun s => 44 :: txt1 s).length ≤ 20 * t.length := by
    intro t
    induction t with
    | nil => simp
    | cons s t ih => have := txt1_len s; simp only [List.flatMap_cons, List.length_append, List.length_cons]; omega
  rcases l with _ | ⟨s, t⟩
  · simp [txt]
  · have := txt1_len s; have := tail t; simp only [txt, List.length_append, List.length_cons]; omega
theorem txt_bytes (l : List Sp) (h : l.all ok1 = true) : ∀ c ∈ txt l, 0 ≤ c ∧ c ≤ 255 := by
  rcases l with _ | ⟨s, t⟩
  · intro c hc; cases hc
  · rw [List.all_eq_true] at h
    intro c hc
    rcases List.mem_append.1 hc with hc | hc
    · exact txt1_bytes s (h s (by simp)) c hc
    · obtain ⟨x, hx, hc⟩ := List.mem_flatMap.1 hc
      rcases List.mem_cons.1 hc with rfl | hc
      · omega
      · exact txt1_bytes x (h x (by simp [hx])) c hc

def Bytes (ns : List Int) : Prop := ∀ c ∈ ns, 0 ≤ c ∧ c ≤ 255
theorem bytes_back (ns : List Int) (h : Bytes ns) : (ns.map fun n => UInt8.ofNat n.toNat).map (fun c => (c.toNat : Int)) = ns := by
  rw [List.map_map]
  conv => rhs; rw [← List.map_id ns]
  apply List.map_congr_left
  intro a ha
  have := h a ha
  simp only [Function.comp, id, UInt8.toNat_ofNat']
  omega
/-- A conversion of owned bytes to a string. -/
theorem conv_string (w : World) (base : Nat) (v : Value) (n : Nat) (ns : List Int) (hn : n = ns.length) (hb : Bytes ns) (hrow : w.ownsRow base 5 1 v n (ns.map (Value.int .u8))) :
    ∃ t : ByteArray, (convert 51 9 v).run Tryd.prog w = .ok (.string t) w ∧ bn t = ns := by
  subst hn
  rcases id hrow.2 with ⟨rfl, h0⟩ | ⟨g, cap, cur, rfl, _⟩
  · refine ⟨⟨#[]⟩, ?_, ?_⟩
    · rw [run_convert_bytes_string w 51 9 5 none 0 0 Tryd.underlying51 Tryd.underlying5 Tryd.underlying9]
      simp [Conv.bytesToString]
      rfl
    · rw [List.length_eq_zero_iff.1 h0]; rfl
  · refine ⟨⟨(ns.map fun n => UInt8.ofNat n.toNat).toArray⟩, ?_, ?_⟩
    · have := run_convert_bytes_back (P := Tryd.prog) w 51 9 5 ⟨g, 0, none⟩ cap (ns.map fun n => UInt8.ofNat n.toNat) Tryd.underlying51 Tryd.underlying5 Tryd.underlying9 (by
        intro j hj
        rw [addr_add, Nat.zero_add, hrow.cellAt j (by simpa using hj)]
        have hj' : j < ns.length := by simpa using hj
        have hbj := hb ns[j] (List.getElem_mem hj')
        rw [List.getElem?_map, List.getElem?_eq_getElem hj']
        simp only [Option.map_some, List.getElem_map, UInt8.toNat_ofNat']
        congr 2
        omega)
      rw [List.length_map] at this
      exact this
    · unfold bn
      simp only
      exact bytes_back ns hb

theorem keep44 {W W' : World} {v : Value} {n B g : Nat} {xs : List Value} {cs : Array Value} (hrow : W.ownsRow B 5 1 v n xs) (h : W.heap[g]? = some (.cells cs 44)) (hg : W.grownBy W' v.ownBlock) : W'.heap[g]? = some (.cells cs 44) := by
  have hlt : g < W.heap.size := (Array.getElem?_eq_some_iff.1 h).1
  rw [hg.block g hlt ?_, h]
  intro e
  rcases hrow.2 with ⟨rfl, _⟩ | ⟨g', cap, cur, rfl, _, hb, _⟩
  · simp [Value.ownBlock] at e
  · obtain rfl : g = g' := by simpa [Value.ownBlock] using e
    rw [hb] at h
    cases h
theorem cells44 {W : World} {g : Nat} {x y : Int} (h : W.heap[g]? = some (.cells #[.int .i32 x, .int .i32 y] 44)) : W.cell? ⟨g, 0, none⟩ = some (.int .i32 x) ∧ W.cell? ⟨g, 1, none⟩ = some (.int .i32 y) := by
  constructor <;> simp [World.cell?, h]

def TextR (a : List Sp) (t : ByteArray) (r : Int) : Prop := (chk a ≠ 0 ∧ t = ⟨#[]⟩ ∧ r = chk a) ∨ (chk a = 0 ∧ r = 0 ∧ ∃ m, Nf (hasP a) m ∧ m.length ≤ a.length ∧ bn t = txt m)

set_option maxRecDepth 100000 in
set_option maxHeartbeats 3200000 in
theorem text_any (v : Value) (a : List Sp) (hA : a.length ≤ 17179869184) (w : World) (hT : Tab w) (hv : SpansAt w v a) :
    Calls Tryd.prog 25 #[v] w fun e W' => (∃ t r, e = .returned (.tuple #[.string t, .int .i64 r]) ∧ TextR a t r) ∧ Below w.heap.size w W' := by
  obtain ⟨i0, hi, hz0, hz1, hz2⟩ := info_parts Tryd.info5
  go_enter Tryd.func25, Tryd.ntmps25
  go_wp2_with fail
  refine (norm_any v a hA w hv).mono ?_
  rintro e w1 ⟨⟨p, cap, m, r, rfl, hN, hS⟩, hB1⟩
  rcases hN with ⟨hc, rfl, rfl⟩ | ⟨hc, hnf, hml, rfl⟩
  · have HC : Hid (chk a ≠ 0) := hc
    go_wp2
    go_ret2
    exact ⟨⟨_, _, rfl, .inl ⟨HC.out, rfl, rfl⟩⟩, hB1⟩
  · have hT1 := hT.below hB1 (Nat.le_refl _)
    obtain ⟨hal, haok⟩ := chk_zero hc
    have HOK := hid' (hnf.ok (fits_has haok))
    have HC := hid' hc
    have HNF := hid' hnf
    have hm9 : m.length ≤ 1024 := by omega
    have HML := hid' hml
    clear haok hc hnf hT
    obtain ⟨a', cap', e', -, hs⟩ := hS
    simp only [Value.slice.injEq] at e'
    obtain ⟨rfl, -, rfl⟩ := e'
    go_wp2_with fail
    go_loopw [6, 19] (fun v6 i wr => ∃ k : Nat, k ≤ m.length ∧ i = .int .i64 k ∧ wr.ownsRow w1.heap.size 5 1 v6 (txt (m.take k)).length ((txt (m.take k)).map (Value.int .u8)) ∧ Below w1.heap.size w1 wr)
      (fun _ i _ => m.length - (intOf i).toNat)
    case atStart => exact ⟨0, Nat.zero_le _, rfl, World.ownsRow_nil _ _ _ _, Below.refl _ _⟩
    case round =>
      obtain ⟨k, hk, rfl, hrow, hB⟩ := hrel
      by_cases hlt : k < m.length
      · obtain ⟨b, off, rfl, hc⟩ := hs (by omega)
        obtain ⟨x, y, HX, c1, c2, hb⟩ := SpansAt.elem (cap := cap) hlt hB hc
        have hxy := ok1_true_of (x, y) (by rw [← HX.out, List.getElem?_eq_getElem hlt]; exact List.all_eq_true.1 HOK.out _ (List.getElem_mem hlt))
        obtain ⟨h1, h2, h3⟩ := hxy
        dsimp only at h1 h2 h3
        obtain ⟨X, rfl⟩ : ∃ X : Nat, x = (X : Int) := ⟨x.toNat, by omega⟩
        obtain ⟨Y, rfl⟩ : ∃ Y : Nat, y = (Y : Int) := ⟨y.toNat, by omega⟩
        have htl := txt_len (m.take k)
        have htk : (m.take k).length ≤ k := List.length_take_le _ _
        have htn : (txt (m.take k)).length ≤ 20480 := by omega
        clear htl htk hc hs
        have HT : Hid (txt (m.take (k + 1)) = (if k = 0 then [] else txt (m.take k) ++ [44]) ++ txt1 ((X : Int), (Y : Int))) := by
          show _ = _
          rw [take_snoc m (0, 0) k hlt, HX.out]
          by_cases hk0 : k = 0
          · subst hk0; simp [txt]
          · rw [if_neg hk0, txt_one _ _ (by rw [List.length_take]; omega), List.append_assoc]; rfl
        obtain ⟨T, hTT⟩ : ∃ T, T = txt (m.take k) := ⟨_, rfl⟩
        rw [← hTT] at hrow htn HT
        have HTT := hid' hTT
        clear hTT HX
        have h8 : (wr.alloc (.cells #[.int .i32 (X : Int), .int .i32 (Y : Int)] 44)).heap[wr.heap.size]? = some (.cells #[.int .i32 (X : Int), .int .i32 (Y : Int)] 44) := heap_alloc_new wr _
        have hrow1 := hrow.alloc (.cells #[.int .i32 (X : Int), .int .i32 (Y : Int)] 44)
        have hB3 := hB.alloc hB.size (.cells #[.int .i32 (X : Int), .int .i32 (Y : Int)] 44)
        clear hrow hB
        by_cases hk0 : k = 0
        · have hk0' : ¬ (0 : Int) < (k : Int) := by omega
          have hT0 : T = [] := by rw [HTT.out, hk0]; rfl
          have HTA : Hid (txt (m.take (k + 1)) = T ++ txt1 ((X : Int), (Y : Int))) := by show _ = _; rw [HT.out, if_pos hk0, hT0]
          clear HT HTT hT0 hk0
          have hA8 := h8
          have hrA := hrow1
          have hBA := hB3
          clear h8 hrow1 hB3
          obtain ⟨TA, hTAe⟩ : ∃ TA, TA = T := ⟨_, rfl⟩
          subst hTAe
          have c3 := (cells44 hA8).1
          have c4 := (cells44 hA8).2
          have hTb := hT1.below hBA (Nat.le_refl _)
          go_wp2_with fail
          refine (append_any w1.heap.size _ _ _ X (by omega) _ hTb (by omega) hrA hBA.size).mono ?_
          rintro e w5 ⟨v5, rfl, hown5, hgrow5⟩
          have h85 := keep44 hrA hA8 hgrow5
          have hB5 := below_grow hBA hBA.size hrA hgrow5
          have hT5 := hT1.below hB5 (Nat.le_refl _)
          have hxl := hx_len X
          have hyl := hx_len Y
          clear hA8 hgrow5 hrA hBA hTb c3 c4
          have c5 := (cells44 h85).1
          have c6 := (cells44 h85).2
          by_cases hXY : Y = X
          · have HF : Hid (txt (m.take (k + 1)) = TA ++ hx X) := by
              show _ = _
              rw [HTA.out]; unfold txt1; dsimp only; rw [if_pos (by omega)]; simp
            have HR : Hid (w5.ownsRow w1.heap.size 5 1 v5 (txt (m.take (k + 1))).length ((txt (m.take (k + 1))).map (Value.int .u8))) := by
              show w5.ownsRow _ _ _ _ _ _
              rw [HF.out, List.length_append, List.map_append]; exact hown5
            have hXY' : ((Y : Int) == (X : Int)) = true := by simp; omega
            clear hown5 HF HTA
            subst hXY
            go_wp2
            go_roundw
            case rel => exact ⟨k + 1, by omega, by go_num, HR.out, hB5⟩
            case measure => simp [intOf]; omega
          · have HF : Hid (txt (m.take (k + 1)) = TA ++ hx X ++ [45] ++ hx Y) := by
              show _ = _
              rw [HTA.out]; unfold txt1; dsimp only; rw [if_neg (by omega)]; simp
            have hXY' : ((Y : Int) == (X : Int)) = false := by simp; omega
            have hXY2 : ((Y : Int) != (X : Int)) = true := by simp; omega
            have h86 : (w5.alloc (.cells #[.int .u8 45] 5)).heap[wr.heap.size]? = some (.cells #[.int .i32 (X : Int), .int .i32 (Y : Int)] 44) := by
              rw [Below.heap_alloc w5 _ _ (Array.getElem?_eq_some_iff.1 h85).1]; exact h85
            have hrow6 := hown5.alloc (.cells #[.int .u8 45] 5)
            have hB6 := hB5.alloc hB5.size (.cells #[.int .u8 45] 5)
            go_wp2_with ((at_builtin; refine wpList_append_own _ rfl _ _ 51 rfl w1.heap.size 5 i0 (.int .u8 0) 1 1 Tryd.underlying51 hi hz0 hz1 hz2 rfl (by decide) _ _ _ rfl hrow6 ⟨w5.heap.size, 0, none⟩ 1 1 [.int .u8 45] rfl rfl (news_at w5 5 [.int .u8 45]) (by simp [Value.oneCell']) (by unfold maxLen; omega) (by omega) hB6.size ?_; intro v7 w7 hown7 hgrow7 _; refine Hid.out ?_))
            refine hid' ?_
            have h87 := keep44 hrow6 h86 hgrow7
            have hB7 := below_grow hB6 hB6.size hrow6 hgrow7
            have hT7 := hT1.below hB7 (Nat.le_refl _)
            clear hrow6 h86 hB6 hgrow7 hown5 h85 hB5 c5 c6
            have c7 := (cells44 h87).2
            go_wp2_with fail
            refine (append_any w1.heap.size _ _ _ Y (by omega) _ hT7 (by omega) hown7 hB7.size).mono ?_
            rintro e w8 ⟨v8, rfl, hown8, hgrow8⟩
            have hB8 := below_grow hB7 hB7.size hown7 hgrow8
            have HR : Hid (w8.ownsRow w1.heap.size 5 1 v8 (txt (m.take (k + 1))).length ((txt (m.take (k + 1))).map (Value.int .u8))) := by
              show w8.ownsRow _ _ _ _ _ _
              rw [HF.out, List.length_append, List.length_append, List.length_append, List.map_append, List.map_append, List.map_append]; exact hown8
            clear hown8 hgrow8 hown7 HF HTA c7 hB7
            go_wp2
            go_roundw
            case rel => exact ⟨k + 1, by omega, by go_num, HR.out, hB8⟩
            case measure => simp [intOf]; omega
        · have hk0' : (0 : Int) < (k : Int) := by omega
          have HTA : Hid (txt (m.take (k + 1)) = (T ++ [44]) ++ txt1 ((X : Int), (Y : Int))) := by show _ = _; rw [HT.out, if_neg hk0]
          clear HT HTT
          have h82 : ((wr.alloc (.cells #[.int .i32 (X : Int), .int .i32 (Y : Int)] 44)).alloc (.cells #[.int .u8 44] 5)).heap[wr.heap.size]? = some (.cells #[.int .i32 (X : Int), .int .i32 (Y : Int)] 44) := by
            rw [Below.heap_alloc _ _ _ (Array.getElem?_eq_some_iff.1 h8).1]; exact h8
          have hrow2 := hrow1.alloc (.cells #[.int .u8 44] 5)
          have hB4 := hB3.alloc hB3.size (.cells #[.int .u8 44] 5)
          go_wp2_with ((at_builtin; refine wpList_append_own _ rfl _ _ 51 rfl w1.heap.size 5 i0 (.int .u8 0) 1 1 Tryd.underlying51 hi hz0 hz1 hz2 rfl (by decide) _ _ _ rfl hrow2 ⟨wr.heap.size + 1, 0, none⟩ 1 1 [.int .u8 44] rfl rfl (by have := news_at (wr.alloc (.cells #[.int .i32 (X : Int), .int .i32 (Y : Int)] 44)) 5 [.int .u8 44]; simpa using this) (by simp [Value.oneCell']) (by unfold maxLen; omega) (by omega) hB4.size ?_; intro vA wA hownA hgrowA _; refine Hid.out ?_))
          refine hid' ?_
          have hA8 := keep44 hrow2 h82 hgrowA
          have hBA := below_grow hB4 hB4.size hrow2 hgrowA
          obtain ⟨TA, hTAe⟩ : ∃ TA, TA = T ++ [44] := ⟨_, rfl⟩
          have hTAl : TA.length ≤ 20481 := by rw [hTAe, List.length_append]; simp; omega
          have hrA : wA.ownsRow w1.heap.size 5 1 vA TA.length (TA.map (Value.int .u8)) := by
            rw [hTAe, List.length_append, List.map_append]; exact hownA
          rw [← hTAe] at HTA
          clear hTAe hownA hgrowA hrow2 h82 hB4 h8 hrow1 hB3
          have c3 := (cells44 hA8).1
          have c4 := (cells44 hA8).2
          have hTb := hT1.below hBA (Nat.le_refl _)
          go_wp2_with fail
          refine (append_any w1.heap.size _ _ _ X (by omega) _ hTb (by omega) hrA hBA.size).mono ?_
          rintro e w5 ⟨v5, rfl, hown5, hgrow5⟩
          have h85 := keep44 hrA hA8 hgrow5
          have hB5 := below_grow hBA hBA.size hrA hgrow5
          have hT5 := hT1.below hB5 (Nat.le_refl _)
          have hxl := hx_len X
          have hyl := hx_len Y
          clear hA8 hgrow5 hrA hBA hTb c3 c4
          have c5 := (cells44 h85).1
          have c6 := (cells44 h85).2
          by_cases hXY : Y = X
          · have HF : Hid (txt (m.take (k + 1)) = TA ++ hx X) := by
              show _ = _
              rw [HTA.out]; unfold txt1; dsimp only; rw [if_pos (by omega)]; simp
            have HR : Hid (w5.ownsRow w1.heap.size 5 1 v5 (txt (m.take (k + 1))).length ((txt (m.take (k + 1))).map (Value.int .u8))) := by
              show w5.ownsRow _ _ _ _ _ _
              rw [HF.out, List.length_append, List.map_append]; exact hown5
            have hXY' : ((Y : Int) == (X : Int)) = true := by simp; omega
            clear hown5 HF HTA
            subst hXY
            go_wp2
            go_roundw
            case rel => exact ⟨k + 1, by omega, by go_num, HR.out, hB5⟩
            case measure => simp [intOf]; omega
          · have HF : Hid (txt (m.take (k + 1)) = TA ++ hx X ++ [45] ++ hx Y) := by
              show _ = _
              rw [HTA.out]; unfold txt1; dsimp only; rw [if_neg (by omega)]; simp
            have hXY' : ((Y : Int) == (X : Int)) = false := by simp; omega
            have hXY2 : ((Y : Int) != (X : Int)) = true := by simp; omega
            have h86 : (w5.alloc (.cells #[.int .u8 45] 5)).heap[wr.heap.size]? = some (.cells #[.int .i32 (X : Int), .int .i32 (Y : Int)] 44) := by
              rw [Below.heap_alloc w5 _ _ (Array.getElem?_eq_some_iff.1 h85).1]; exact h85
            have hrow6 := hown5.alloc (.cells #[.int .u8 45] 5)
            have hB6 := hB5.alloc hB5.size (.cells #[.int .u8 45] 5)
            go_wp2_with ((at_builtin; refine wpList_append_own _ rfl _ _ 51 rfl w1.heap.size 5 i0 (.int .u8 0) 1 1 Tryd.underlying51 hi hz0 hz1 hz2 rfl (by decide) _ _ _ rfl hrow6 ⟨w5.heap.size, 0, none⟩ 1 1 [.int .u8 45] rfl rfl (news_at w5 5 [.int .u8 45]) (by simp [Value.oneCell']) (by unfold maxLen; omega) (by omega) hB6.size ?_; intro v7 w7 hown7 hgrow7 _; refine Hid.out ?_))
            refine hid' ?_
            have h87 := keep44 hrow6 h86 hgrow7
            have hB7 := below_grow hB6 hB6.size hrow6 hgrow7
            have hT7 := hT1.below hB7 (Nat.le_refl _)
            clear hrow6 h86 hB6 hgrow7 hown5 h85 hB5 c5 c6
            have c7 := (cells44 h87).2
            go_wp2_with fail
            refine (append_any w1.heap.size _ _ _ Y (by omega) _ hT7 (by omega) hown7 hB7.size).mono ?_
            rintro e w8 ⟨v8, rfl, hown8, hgrow8⟩
            have hB8 := below_grow hB7 hB7.size hown7 hgrow8
            have HR : Hid (w8.ownsRow w1.heap.size 5 1 v8 (txt (m.take (k + 1))).length ((txt (m.take (k + 1))).map (Value.int .u8))) := by
              show w8.ownsRow _ _ _ _ _ _
              rw [HF.out, List.length_append, List.length_append, List.length_append, List.map_append, List.map_append, List.map_append]; exact hown8
            clear hown8 hgrow8 hown7 HF HTA c7 hB7
            go_wp2
            go_roundw
            case rel => exact ⟨k + 1, by omega, by go_num, HR.out, hB8⟩
            case measure => simp [intOf]; omega
      · have hkk : k = m.length := by omega
        rw [hkk, List.take_length] at hrow
        obtain ⟨t, hcv, ht⟩ := conv_string wr w1.heap.size _ _ (txt m) rfl (txt_bytes m HOK.out) hrow
        have HTX : Hid (bn t = txt m) := ht
        clear ht hkk hs
        go_wp2
        go_ret2
        exact ⟨⟨_, _, rfl, .inr ⟨HC.out, rfl, m, HNF.out, HML.out, HTX.out⟩⟩, hB1.trans (hB.mono hB1.size)⟩
end Go.Proofs.YtlgnnljleooenaaDoor
