/- strings.SplitN by the shelf, at a byte; six.pair. (Stage 11.) -/
import Derived.Test.YtpkmpebhlolhaaaDoorWD
import Derived.OwnWalk
namespace Go.Proofs.YtpkmpebhlolhaaaDoor.X
open Go.RowKit
open Go.Proofs.YtpkmpebhlolhaaaDoor.F (hx hx_bd vl vl_snoc bn bn_length bn_append bn_inj bn_get byte_bd hid bn_extract isEmpty_false isEmpty_true str_eq same_eq)
set_option linter.unusedVariables false

/-! ### Plain: a text cut at a byte -/
theorem mem_nn {b : UInt8} {l : List UInt8} : (b.toNat : Int) ∈ nn l ↔ b ∈ l := by
  unfold nn
  rw [List.mem_map]
  constructor
  · rintro ⟨c, hc, e⟩
    have : c = b := UInt8.toNat_inj.1 (by omega)
    rw [← this]; exact hc
  · intro h; exact ⟨b, h, rfl⟩
theorem spB_ne (b : Int) : ∀ l : List Int, spB b l ≠ []
  | [] => by simp [spB]
  | c :: l => by rw [spB]; split <;> simp
/-- One text behind another, the byte between. -/
theorem sp_app (b : Int) : ∀ (A B : List Int), spB b (A ++ b :: B) = spB b A ++ spB b B
  | [], B => by
    have h : spB b (b :: B) = [] :: spB b B := if_pos rfl
    exact h
  | c :: A, B => by
    have ih := sp_app b A B
    show spB b (c :: (A ++ b :: B)) = _
    rw [spB, spB]
    by_cases h : c = b
    · rw [if_pos h, if_pos h, ih]; rfl
    · rw [if_neg h, if_neg h, ih]
      cases hs : spB b A with
      | nil => exact absurd hs (spB_ne b A)
      | cons x y => rfl
theorem sp_len_app (b : Int) (A B : List Int) : (spB b (A ++ b :: B)).length = (spB b A).length + (spB b B).length := by rw [sp_app, List.length_append]
theorem sp_cntW (b : Int) : ∀ l : List Int, (spB b l).length ≤ l.length + 1
  | [] => by simp [spB]
  | c :: l => by
    have ih := sp_cntW b l
    have hp := List.length_pos_iff.2 (spB_ne b l)
    rw [spB]
    split
    · rw [List.length_cons, List.length_cons]; omega
    · rw [List.length_cons, List.length_tail, List.length_cons]; omega
theorem sp_mem (b : Int) : ∀ (l p : List Int), p ∈ spB b l → p.length ≤ l.length ∧ ¬ b ∈ p ∧ ∀ c ∈ p, c ∈ l
  | [], p, h => by simp [spB] at h; subst h; simp
  | c :: l, p, h => by
    rw [spB] at h
    split at h
    · rcases List.mem_cons.1 h with rfl | h
      · simp
      · obtain ⟨h1, h2, h3⟩ := sp_mem b l p h
        exact ⟨by rw [List.length_cons]; omega, h2, fun x hx => List.mem_cons_of_mem _ (h3 x hx)⟩
    · rename_i hcb
      cases hs : spB b l with
      | nil => exact absurd hs (spB_ne b l)
      | cons x y =>
        rw [hs] at h
        rcases List.mem_cons.1 h with rfl | h
        · obtain ⟨h1, h2, h3⟩ := sp_mem b l x (by rw [hs]; simp)
          refine ⟨by simpa using h1, fun hh => ?_, fun z hz => ?_⟩
          · rcases List.mem_cons.1 hh with e | hh
            · exact hcb e.symm
            · exact h2 hh
          · rcases List.mem_cons.1 hz with e | hz
            · rw [e]; simp
            · exact List.mem_cons_of_mem _ (h3 z hz)
        · obtain ⟨h1, h2, h3⟩ := sp_mem b l p (by rw [hs]; exact List.mem_cons_of_mem _ h)
          exact ⟨by rw [List.length_cons]; omega, h2, fun z hz => List.mem_cons_of_mem _ (h3 z hz)⟩
theorem spK (b : UInt8) : ∀ (k : Nat) (l : List UInt8), ((spB b.toNat (nn l)).length ≤ k + 1 ∧ (Lib.splitK [b] 0 k l).map nn = spB b.toNat (nn l)) ∨ (k + 1 < (spB b.toNat (nn l)).length ∧ (Lib.splitK [b] 0 k l).length = k + 1)
  | 0, l => by
    by_cases h : b ∈ l
    · right
      obtain ⟨A, B, e⟩ := List.append_of_mem (mem_nn.2 h)
      have h1 := List.length_pos_iff.2 (spB_ne b.toNat A)
      have h2 := List.length_pos_iff.2 (spB_ne b.toNat B)
      rw [e, sp_len_app]
      exact ⟨by omega, rfl⟩
    · left
      have hs := sp_one b.toNat (nn l) (fun hh => h (mem_nn.1 hh))
      rw [hs]
      exact ⟨by simp, rfl⟩
  | k + 1, l => by
    have hge := Lib.indexByte_ge l b
    have hi1 := Lib.index_one l b
    by_cases hm : Lib.indexByte l b = -1
    · left
      have hn := Lib.indexByte_none hm
      have h : ¬ b ∈ l := fun hh => by
        obtain ⟨j, hj, e⟩ := List.mem_iff_getElem.1 hh
        exact hn j (by rw [List.getElem?_eq_getElem hj, e])
      have hs := sp_one b.toNat (nn l) (fun hh => h (mem_nn.1 hh))
      rw [hs]
      refine ⟨by simp, ?_⟩
      rw [Lib.splitK, hi1, hm]; rfl
    · obtain ⟨i, hi⟩ : ∃ i : Nat, Lib.indexByte l b = i := ⟨(Lib.indexByte l b).toNat, by omega⟩
      obtain ⟨h1, h2⟩ := Lib.indexByte_some hi
      have hil : i < l.length := (List.getElem?_eq_some_iff.1 h1).1
      have e : l = l.take i ++ b :: l.drop (i + 1) := by
        have h5 : l.drop i = b :: l.drop (i + 1) := by
          rw [List.drop_eq_getElem_cons hil]
          rw [List.getElem?_eq_getElem hil] at h1
          rw [Option.some.inj h1]
        rw [← h5, List.take_append_drop]
      have hn : ¬ b ∈ l.take i := fun hh => by
        obtain ⟨j, hj, e⟩ := List.mem_iff_getElem.1 hh
        rw [List.length_take] at hj
        rw [List.getElem_take] at e
        exact h2 j (by omega) (by rw [List.getElem?_eq_getElem (by omega), e])
      have es : spB b.toNat (nn l) = nn (l.take i) :: spB b.toNat (nn (l.drop (i + 1))) := by
        conv => lhs; rw [e]
        rw [show nn (l.take i ++ b :: l.drop (i + 1)) = nn (l.take i) ++ (b.toNat : Int) :: nn (l.drop (i + 1)) by unfold nn; rw [List.map_append]; rfl]
        exact sp_plain _ _ _ (fun hh => hn (mem_nn.1 hh))
      have ek : Lib.splitK [b] 0 (k + 1) l = l.take i :: Lib.splitK [b] 0 k (l.drop (i + 1)) := by
        rw [Lib.splitK, hi1, hi, if_neg (by simp)]
        simp
      rw [es, ek]
      rcases spK b k (l.drop (i + 1)) with ⟨g1, g2⟩ | ⟨g1, g2⟩
      · left
        exact ⟨by rw [List.length_cons]; omega, by rw [List.map_cons, g2]⟩
      · right
        exact ⟨by rw [List.length_cons]; omega, by rw [List.length_cons, g2]⟩
/-- What a cut at a byte answers: the parts, if there are at most M. -/
theorem split_parts (b : UInt8) (M : Nat) (U : ByteArray) (qs : List ByteArray) (hq : qs = Lib.splitB ⟨#[b]⟩ 0 (min (M + 1) (U.size + 1) - 1) U) : ((spB b.toNat (bn U)).length ≤ M ∧ qs.map bn = spB b.toNat (bn U)) ∨ (M < (spB b.toNat (bn U)).length ∧ M < qs.length) := by
  have hd := Lib.splitB_data ⟨#[b]⟩ 0 (min (M + 1) (U.size + 1) - 1) U
  rw [← hq] at hd
  have hb : qs.map bn = (Lib.splitK [b] 0 (min (M + 1) (U.size + 1) - 1) U.data.toList).map nn := by
    have h2 : qs.map bn = (qs.map (·.data.toList)).map nn := by rw [List.map_map]; rfl
    rw [h2, hd]
  have hl : qs.length = (Lib.splitK [b] 0 (min (M + 1) (U.size + 1) - 1) U.data.toList).length := by
    have := congrArg List.length hb
    rwa [List.length_map, List.length_map] at this
  have hc := sp_cntW b.toNat (bn U)
  rw [bn_length] at hc
  rcases spK b (min (M + 1) (U.size + 1) - 1) U.data.toList with ⟨g1, g2⟩ | ⟨g1, g2⟩
  · have g1' : (spB b.toNat (bn U)).length ≤ min (M + 1) (U.size + 1) - 1 + 1 := g1
    have g2' : qs.map bn = spB b.toNat (bn U) := hb.trans g2
    by_cases h4 : (spB b.toNat (bn U)).length ≤ M
    · exact .inl ⟨h4, g2'⟩
    · right
      refine ⟨by omega, ?_⟩
      have := congrArg List.length g2'
      rw [List.length_map] at this
      omega
  · have g1' : min (M + 1) (U.size + 1) - 1 + 1 < (spB b.toNat (bn U)).length := g1
    right
    rw [hl, g2]
    omega
theorem cellsOf_at {done : List ByteArray} {N j : Nat} (h : j < done.length) : (Lib.cellsOf done N)[j]? = some (.string (done[j]?.getD ⟨#[]⟩)) := by
  unfold Lib.cellsOf
  rw [List.getElem?_toArray, List.getElem?_append_left (by simpa using h), List.getElem?_map, List.getElem?_eq_getElem h]; rfl
theorem cell_new_at (w : World) (t : TypeId) (cs : Array Value) (j : Nat) : (w.alloc (.cells cs t)).cell? ⟨w.heap.size, j, none⟩ = cs[j]? := by
  have hb : (w.alloc (.cells cs t)).heap[w.heap.size]? = some (.cells cs t) := heap_alloc_new w _
  generalize w.alloc (.cells cs t) = W at hb ⊢
  simp [World.cell?, hb]
/-- internal/bytealg.MaxLen holds a number. -/
def Mx (W : World) : Prop := ∃ m : Int, W.cell? ⟨0, 0, none⟩ = some (.int .i64 m)
theorem Mx.below {w w' : World} (h : Mx w) (hb : Below w.heap.size w w') : Mx w' := by
  obtain ⟨m, hm⟩ := h
  exact ⟨m, (hb.cell (p := ⟨0, 0, none⟩) (Lib.lt_of_cell hm)).trans hm⟩
/-- What SplitN answers: texts that lie in a new row. -/
def SplQ (b : UInt8) (M : Nat) (U : ByteArray) (w : World) (e : Ending) (W' : World) : Prop := (∃ (g c : Nat) (qs : List ByteArray), e = .returned (.slice (some ⟨g, 0, none⟩) qs.length c) ∧ (∀ j, j < qs.length → W'.cell? ⟨g, j, none⟩ = some (.string (qs[j]?.getD ⟨#[]⟩))) ∧ (((spB b.toNat (bn U)).length ≤ M ∧ qs.map bn = spB b.toNat (bn U)) ∨ (M < (spB b.toNat (bn U)).length ∧ M < qs.length ∧ qs.length ≤ U.size + 1))) ∧ Below w.heap.size w W'
theorem splitB_len (b : UInt8) (n : Nat) (U : ByteArray) (h : n ≤ U.size) : (Lib.splitB ⟨#[b]⟩ 0 n U).length ≤ U.size + 1 := by
  have hd := congrArg List.length (Lib.splitB_data ⟨#[b]⟩ 0 n U)
  rw [List.length_map] at hd
  have e : (⟨#[b]⟩ : ByteArray).data.toList = [b] := rfl
  rw [e] at hd
  rcases spK b n U.data.toList with ⟨g1, g2⟩ | ⟨_, g2⟩
  · have := congrArg List.length g2
    rw [List.length_map] at this
    omega
  · omega
theorem splitn_any (b : UInt8) (M : Nat) (hM1 : M ≤ 100) (U : ByteArray) (w : World) (hU : U.size ≤ 1000000000) (hM : Mx w) :
    Calls Tryd.prog 26 #[.string U, .string ⟨#[b]⟩, .int .i64 ((M + 1 : Nat) : Int)] w fun e W' => SplQ b M U w e W' := by
  obtain ⟨m, hm⟩ := hM
  have hf : Tryd.laysSplX_ren.f 147 = 26 := by kernel_rfl
  have hg : Tryd.laysSplX_ren.g 1 = 0 := by kernel_rfl
  have h := Any.strings_SplitN Tryd.laysSplX (by kernel_rfl) U ⟨#[b]⟩ (M + 1) m w (by omega) (by rw [hg]; exact hm) (Nat.le_refl 1) (by omega) (by omega)
  rw [hf] at h
  refine h.mono ?_
  rintro e W' ⟨rfl, rfl⟩
  refine ⟨⟨_, _, _, rfl, fun j hj => ?_, ?_⟩, (Below.refl _ w).alloc (Nat.le_refl _) _⟩
  · rw [cell_new_at]
    exact cellsOf_at hj
  · rcases split_parts b M U _ rfl with h1 | ⟨h1, h2⟩
    · exact .inl h1
    · exact .inr ⟨h1, h2, splitB_len b _ U (by omega)⟩
/-! ### Four numbers -/
def ac (ds : List Nat) : Nat := ds.foldl (fun n d => n * 256 + d) 0
theorem ac_snoc (ds : List Nat) (d : Nat) : ac (ds ++ [d]) = ac ds * 256 + d := by unfold ac; rw [List.foldl_append]; rfl
def sz8 (j a : Nat) : Prop := (j = 0 ∧ a = 0) ∨ (j = 1 ∧ a ≤ 255) ∨ (j = 2 ∧ a ≤ 65535) ∨ (j = 3 ∧ a ≤ 16777215) ∨ (j = 4 ∧ a ≤ 4294967295)
theorem sz8_step {j a d : Nat} (h : sz8 j a) (hj : j < 4) (hd : d ≤ 255) : sz8 (j + 1) (a * 256 + d) ∧ a ≤ 16777215 := by
  unfold sz8 at *
  omega
theorem or_u32 (a d : Nat) (ha : a ≤ 16777215) (hd : d ≤ 255) : bits .or .u32 ((a : Int) * 256) (d : Int) = ((a * 256 + d : Nat) : Int) := by
  have h := u32_or_nat (a * 256) d (by omega) (by omega)
  have e : a * 256 ||| d = a * 256 + d := by
    have := Nat.shiftLeft_add_eq_or_of_lt (b := d) (i := 8) (by omega) a
    rw [Nat.shiftLeft_eq] at this
    exact this.symm
  rw [e] at h
  exact h
theorem four2_none {l : List (Option Nat)} (h : none ∈ l) : four2 l = none := by
  match l, h with
  | [some a, some b, some c, some d], h => simp at h
  | [], _ => rfl
  | [x], _ => cases x <;> rfl
  | [x, y], _ => cases x <;> cases y <;> rfl
  | [x, y, z], _ => cases x <;> cases y <;> cases z <;> rfl
  | none :: _ :: _ :: _ :: _, _ => rfl
  | some _ :: none :: _ :: _ :: _, _ => rfl
  | some _ :: some _ :: none :: _ :: _, _ => rfl
  | some _ :: some _ :: some _ :: none :: _, _ => rfl
  | some _ :: some _ :: some _ :: some _ :: _ :: _, _ => rfl
theorem four2_len {l : List (Option Nat)} (h : l.length ≠ 4) : four2 l = none := by
  match l, h with
  | [a, b, c, d], h => simp at h
  | [], _ => rfl
  | [x], _ => cases x <;> rfl
  | [x, y], _ => cases x <;> cases y <;> rfl
  | [x, y, z], _ => cases x <;> cases y <;> cases z <;> rfl
  | none :: _ :: _ :: _ :: _ :: _, _ => rfl
  | some _ :: none :: _ :: _ :: _ :: _, _ => rfl
  | some _ :: some _ :: none :: _ :: _ :: _, _ => rfl
  | some _ :: some _ :: some _ :: none :: _ :: _, _ => rfl
  | some _ :: some _ :: some _ :: some _ :: _ :: _, _ => rfl
/-- What six.pair answers. -/
def PairR (o : Option (List Nat)) (e : Ending) : Prop := (∃ h l : Nat, o = some [h, l] ∧ h < 65536 ∧ l < 65536 ∧ e = .returned (.tuple #[.int .u16 h, .int .u16 l, .bool true])) ∨ (o = none ∧ e = .returned (.tuple #[.int .u16 0, .int .u16 0, .bool false]))
theorem pair_four {ps : List (List Int)} {ds : List Nat} (hl : ds.length = 4) (h : ps.map dn = ds.map some) (ha : ac ds ≤ 4294967295) : ∃ H L : Nat, four2 (ps.map dn) = some [H, L] ∧ H < 65536 ∧ L < 65536 ∧ ac ds / 65536 = H ∧ ac ds % 65536 = L := by
  match ds, hl with
  | [a, b, c, d], _ =>
    rw [h]
    have e : ac [a, b, c, d] = ((a * 256 + b) * 256 + c) * 256 + d := by simp [ac]
    have hb : ∀ x : Nat, some x ∈ ps.map dn → x ≤ 255 := by
      intro x hx
      obtain ⟨p, _, hp⟩ := List.mem_map.1 hx
      unfold dn at hp
      split at hp
      · rename_i hh; cases hp; exact hh.2.2.2.2
      · cases hp
    rw [h] at hb
    have ba := hb a (by simp)
    have bb := hb b (by simp)
    have bc := hb c (by simp)
    have bd := hb d (by simp)
    refine ⟨a * 256 + b, c * 256 + d, rfl, by omega, by omega, ?_, ?_⟩ <;> rw [e] <;> omega
set_option maxRecDepth 100000 in
set_option maxHeartbeats 8000000 in
theorem pair_any (U : ByteArray) (hU : U.size ≤ 1000000) (w : World) (hE : Er w) (hM : Mx w) : Calls Tryd.prog 24 #[.string U] w fun e W' => PairR (dt (bn U)) e ∧ Below w.heap.size w W' := by
  have HSP : Hid (Calls Tryd.prog 26 #[.string U, .string ⟨#[46]⟩, .int .i64 5] w fun e W' => SplQ 46 4 U w e W') := splitn_any 46 4 (by omega) U w (by omega) hM
  have HE := hid (fun W hb => hE.below (w' := W) hb)
  have HNO : Hid (dt (bn U) = none → PairR (dt (bn U)) (.returned (.tuple #[.int .u16 0, .int .u16 0, .bool false]))) := fun h => .inr ⟨h, rfl⟩
  have HDT : Hid (dt (bn U) = four2 ((spB 46 (bn U)).map dn)) := rfl
  have hmem := sp_mem 46 (bn U)
  rw [bn_length] at hmem
  have HMEM := hid hmem
  obtain ⟨o, ho⟩ : ∃ o, dt (bn U) = o := ⟨_, rfl⟩
  rw [ho] at HNO HDT ⊢
  clear ho hmem hE hM
  go_enter Tryd.func24, Tryd.ntmps24
  go_wp2_with fail
  refine HSP.out.mono ?_
  rintro e w1 ⟨⟨g, c, qs, rfl, hcb, hor⟩, B1⟩
  have HB1 := hid B1
  have HCB := hid hcb
  have HER := hid (HE.out w1 B1)
  clear B1 HSP HE hcb
  by_cases h4 : qs.length = 4
  · have hqs : qs.map bn = spB 46 (bn U) := by
      rcases hor with h | h
      · exact h.2
      · omega
    have hsz : ∀ i, i < qs.length → (qs[i]?.getD ⟨#[]⟩).size ≤ 1000000 := fun i hi => by
      have h1 : bn (qs[i]?.getD ⟨#[]⟩) ∈ spB 46 (bn U) := by
        rw [← hqs, List.getElem?_eq_getElem hi]
        exact List.mem_map_of_mem (List.getElem_mem hi)
      have := (HMEM.out _ h1).1
      rw [bn_length] at this
      omega
    have HSZ := hid hsz
    have HQS := hid hqs
    rw [← hqs] at HDT
    clear hor hqs hsz HMEM
    have HL4 := hid h4
    rw [h4] at HCB HSZ ⊢
    clear h4
    go_wp2_with fail
    go_loopw [6, 18] (fun v6 v18 wr => ∃ (j : Nat) (ds : List Nat) (a : Nat), j ≤ 4 ∧ v6 = .int .u32 (a : Int) ∧ v18 = .int .i64 (j : Int) ∧ Hid (ds.length = j ∧ ac ds = a ∧ sz8 j a ∧ ((qs.take j).map bn).map dn = ds.map some) ∧ Hid (Below w1.heap.size w1 wr)) (fun _ v18 _ => 4 - (intOf v18).toNat)
    case atStart => exact ⟨0, [], 0, by omega, rfl, rfl, ⟨rfl, rfl, .inl ⟨rfl, rfl⟩, rfl⟩, Below.refl _ _⟩
    case round =>
      obtain ⟨j, ds, a, hj, rfl, rfl, HH, HB⟩ := hrel
      by_cases hlt : j < 4
      · have hcw := HCB.out j hlt
        have hcr : wr.cell? ⟨g, j, none⟩ = some (.string (qs[j]?.getD ⟨#[]⟩)) := (HB.out.cell (p := ⟨g, j, none⟩) (Lib.lt_of_cell hcw)).trans hcw
        have HNU : Hid (Calls Tryd.prog 36 #[.string (qs[j]?.getD ⟨#[]⟩)] wr fun e W' => NumR (dn (bn (qs[j]?.getD ⟨#[]⟩))) e ∧ Below wr.heap.size wr W') := number_any _ (by have := HSZ.out j hlt; omega) wr (HER.out.below HB.out)
        have hjq : j < qs.length := by rw [HL4.out]; exact hlt
        have htk : qs.take (j + 1) = qs.take j ++ [qs[j]?.getD ⟨#[]⟩] := by rw [List.take_add_one, List.getElem?_eq_getElem hjq]; rfl
        have hmm : bn (qs[j]?.getD ⟨#[]⟩) ∈ qs.map bn := by
          rw [List.getElem?_eq_getElem hjq]
          exact List.mem_map_of_mem (List.getElem_mem hjq)
        obtain ⟨D, hD⟩ : ∃ D, qs[j]?.getD ⟨#[]⟩ = D := ⟨_, rfl⟩
        rw [hD] at hcr HNU htk hmm
        have HTK := hid htk
        have HMM := hid hmm
        have hltz : (j : Int) < 4 := by omega
        clear hD hcw htk hmm hjq
        obtain ⟨o2, ho2⟩ : ∃ o2, dn (bn D) = o2 := ⟨_, rfl⟩
        have HO2 := hid ho2
        rw [ho2] at HNU
        clear ho2
        go_wp2_with fail
        refine HNU.out.mono ?_
        rintro e w2 ⟨hn, B2⟩
        have HB2 := hid (HB.out.trans (B2.mono HB.out.size))
        clear B2 HNU
        rcases hn with ⟨v, hv, hv5, rfl⟩ | ⟨hv, x, rfl⟩
        · obtain ⟨q1, q2, q3, q4⟩ := HH.out
          have hst := sz8_step q3 hlt hv5
          have HN : Hid ((ds ++ [v]).length = j + 1 ∧ ac (ds ++ [v]) = a * 256 + v ∧ sz8 (j + 1) (a * 256 + v) ∧ ((qs.take (j + 1)).map bn).map dn = (ds ++ [v]).map some) := by
            refine ⟨by rw [List.length_append, q1]; rfl, by rw [ac_snoc, q2], hst.1, ?_⟩
            rw [HTK.out, List.map_append, List.map_append, q4, List.map_append]
            congr 1
            show [dn (bn D)] = [some v]
            rw [HO2.out, hv]
          have ha := hst.2
          have hor2 := or_u32 a v ha hv5
          clear q1 q2 q3 q4 hst HH HO2 hv
          go_wp2_with fail
          go_roundw
          case rel => exact ⟨j + 1, ds ++ [v], a * 256 + v, by omega, by first | rfl | go_num, by go_num, HN, HB2⟩
          case measure => simp [intOf]; omega
        · have hnone : o = none := by
            rw [HDT.out]
            refine four2_none (List.mem_map.2 ⟨bn D, HMM.out, ?_⟩)
            rw [HO2.out, hv]
          have HR := hid (HNO.out hnone)
          clear hnone HNO HO2 HH hv
          go_wp2
          go_ret3
          exact ⟨HR.out, HB1.out.trans (HB2.out.mono HB1.out.size)⟩
      · have hj4 : j = 4 := by omega
        subst hj4
        obtain ⟨q1, q2, q3, q4⟩ := HH.out
        have ha : a ≤ 4294967295 := by unfold sz8 at q3; omega
        rw [List.take_of_length_le (by rw [HL4.out]; omega)] at q4
        obtain ⟨H, L, f1, f2, f3, f4, f5⟩ := pair_four q1 q4 (by omega)
        rw [q2] at f4 f5
        have HR : Hid (PairR o (.returned (.tuple #[.int .u16 H, .int .u16 L, .bool true]))) := .inl ⟨H, L, by rw [HDT.out, f1], f2, f3, rfl⟩
        have hw1 : IntKind.u16.wrap ((a : Int) / 65536) = (H : Int) := by
          simp [IntKind.wrap, IntKind.bits, IntKind.signed]; omega
        have hw2 : IntKind.u16.wrap (a : Int) = (L : Int) := by
          simp [IntKind.wrap, IntKind.bits, IntKind.signed]; omega
        clear q1 q2 q3 q4 f1 f2 f3 f4 f5 HH HNO HDT
        go_wp2
        go_ret3
        exact ⟨HR.out, HB1.out.trans (HB.out.mono HB1.out.size)⟩
  · have hnone : o = none := by
      rw [HDT.out]
      apply four2_len
      rw [List.length_map]
      rcases hor with ⟨_, h⟩ | ⟨h, _⟩
      · have h5 := congrArg List.length h
        rw [List.length_map] at h5
        have h6 : (spB 46 (bn U)).length = qs.length := h5.symm
        omega
      · have h6 : 4 < (spB 46 (bn U)).length := h
        omega
    have hle : qs.length ≤ 1000001 := by
      rcases hor with ⟨h, h5⟩ | ⟨_, _, h⟩
      · have := congrArg List.length h5
        rw [List.length_map] at this
        omega
      · omega
    have HR := hid (HNO.out hnone)
    have h4z : ((qs.length : Int) == 4) = false := by simp; omega
    obtain ⟨n, hn⟩ : ∃ n, qs.length = n := ⟨_, rfl⟩
    rw [hn] at h4z hle ⊢
    clear hnone HNO hor HCB hn h4 HMEM HDT
    go_wp2
    go_ret3
    exact ⟨HR.out, HB1.out⟩
end Go.Proofs.YtpkmpebhlolhaaaDoor.X
