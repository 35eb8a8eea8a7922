/- What the laws see of Lex's and Write's answers; The contract of utf.Encode: the bytes of its code points, or an error where one is no scalar; The contracts of the statements' own helpers: runes (two like lists), works; append on slices of code points, and what a slice that came in leads to; The contracts of the document's own answer (package portcullisref01): Scalar, Bytes, Encode; Plain facts on the document's own answer: its whole, its begins, its value, against what stands at the front. -/
import Derived.Test.YtphkdagapoonjaaGreatDoorZLPT
import Derived.Test.YtphkdagapoonjaaGreatDoorZLXE
import Derived.Test.YtphkdagapoonjaaGreatDoorUC
import Derived.Test.YtphkdagapoonjaaGreatDoorUV
import Derived.Deep.QuietTactic
import Derived.BigQuiet
import Derived.Test.YtphkdagapoonjaaGreatDoorZUT
import Derived.Laws.AppendOwnNone
import Derived.Laws.Concat
namespace Go.Proofs.YtphkdagapoonjaaGreatDoor.Lx
open Go.RowKit
open Go.Proofs.YtphkdagapoonjaaGreatDoor.F (bn bn_length bn_append bn_inj bn_get byte_bd hid bn_extract isEmpty_false isEmpty_true str_eq same_eq)
open Go.Proofs.YtphkdagapoonjaaGreatDoor.U (nx enc encs scal val Bytes)
set_option linter.unusedVariables false

theorem lexP_none : ∀ (r : List (Nat × List Int)) (o : List Tk), (lexP r o).2.1 ≠ 0 → (lexP r o).1 = []
  | [], o, h => absurd rfl h
  | x :: r, o, h => by
    rw [lexP] at h ⊢
    by_cases h0 : (line x.2 x.1).2.1 ≠ 0
    · rw [if_pos h0]
    · rw [if_neg h0] at h ⊢
      exact lexP_none r _ h
theorem lex_none {s : List Int} (h : (lex s).2.1 ≠ 0) : (lex s).1 = [] := by
  unfold lex at h ⊢
  by_cases hl : 65536 < s.length
  · rw [if_pos hl]
  · rw [if_neg hl] at h ⊢
    have e := lexF_P s.length s [] 1 (Nat.le_refl _)
    rw [e] at h ⊢
    exact lexP_none _ _ h
theorem sm_kx : ∀ {ts us : List Tb}, (ts.map Tb.tk).map kx = (us.map Tb.tk).map kx → sm true ts us = true
  | [], [], _ => rfl
  | [], _ :: _, h => by simp at h
  | _ :: _, [], h => by simp at h
  | ⟨k, x, n, a⟩ :: ts, ⟨k', x', n', a'⟩ :: us, h => by
    rw [List.map_cons, List.map_cons, List.map_cons, List.map_cons, List.cons.injEq] at h
    obtain ⟨e, e2⟩ := h
    unfold kx Tb.tk at e
    simp only [Prod.mk.injEq] at e
    obtain ⟨rfl, e1⟩ := e
    obtain rfl := bn_inj e1
    rw [sm, sm_kx e2]
    unfold sj
    simp
theorem kx_len {ts us : List Tb} (h : (ts.map Tb.tk).map kx = (us.map Tb.tk).map kx) : ts.length = us.length := by
  have := congrArg List.length h
  simpa using this
theorem ok_small : ∀ {last : Nat} {r : List Tk}, ok last r → r.length ≤ (wr last r).length ∧ ∀ t ∈ r, t.k ≤ 5 ∧ t.x.length ≤ (wr last r).length
  | last, [], _ => ⟨Nat.zero_le _, fun t ht => (by cases ht)⟩
  | last, t :: r, h => by
    rw [ok] at h
    obtain ⟨h1, h2⟩ := h
    obtain ⟨a, b⟩ := ok_small h2
    have key : t.k ≤ 5 ∧ t.x.length ≤ (tw t).length ∧ 1 ≤ (tw t).length := by
      unfold tw
      rcases h1 with ⟨hk, hw⟩ | ⟨hk, hv⟩ | ⟨hk, hx⟩
      · rw [if_pos hk]
        have := List.length_pos_iff.2 hw.1
        exact ⟨by omega, Nat.le_refl _, this⟩
      · rw [if_neg (by omega), if_pos hk]
        have := flat_ge t.x
        unfold qt
        simp only [List.length_cons, List.length_append, List.length_nil]
        omega
      · rw [hx, if_neg (by omega), if_neg (by omega)]
        refine ⟨by omega, Nat.zero_le _, ?_⟩
        (repeat' split) <;> simp
    have e : (wr last (t :: r)).length = (sep last t.k).length + (tw t).length + (wr t.k r).length := by rw [wr, List.length_append, List.length_append]
    refine ⟨by rw [List.length_cons]; omega, fun u hu => ?_⟩
    rcases List.mem_cons.1 hu with rfl | hu
    · exact ⟨key.1, by omega⟩
    · exact ⟨(b u hu).1, Nat.le_trans (b u hu).2 (by omega)⟩
theorem read_sml {ts : List Tb} {M : Nat} (h : ∀ t ∈ ts.map Tb.tk, t.k ≤ 5 ∧ t.x.length ≤ M) (hM : M ≤ 1000000) : Sml ts := by
  intro t ht
  have := h _ (List.mem_map_of_mem ht)
  unfold Tb.tk at this
  simp only [bn_length] at this
  exact ⟨by omega, by omega⟩
theorem bt (l : List Tb) : BT (l.map Tb.tk) := by
  intro t ht
  obtain ⟨u, _, rfl⟩ := List.mem_map.1 ht
  exact U.bn_bytes u.x
theorem ln_bad {s : ByteArray} {B : Nat} {e : Ending} {W : World} (h : LnR (lex (bn s)) B e W) (h0 : (lex (bn s)).2.1 ≠ 0) : ∃ (a : Option Addr) (c : Nat) (f0 f1 f2 : Int), f0 ≠ 0 ∧ e = .returned (.tuple #[.slice a 0 c, .agg #[.int .i64 f0, .int .i64 f1, .int .i64 f2]]) := by
  obtain ⟨v, ts, hown, hts, hnn, rfl⟩ := h
  rw [lex_none h0] at hts
  obtain rfl := List.map_eq_nil_iff.1 hts
  obtain ⟨a, c, rfl⟩ := hown.form
  exact ⟨a, c, _, _, _, by omega, rfl⟩
theorem ln_good {s : ByteArray} {B : Nat} {e : Ending} {W : World} (h : LnR (lex (bn s)) B e W) (h0 : (lex (bn s)).2.1 = 0) (hs : s.size ≤ 65536) : ∃ (a : Option Addr) (c : Nat) (ts : List Tb), e = .returned (.tuple #[.slice a ts.length c, .agg #[.int .i64 0, .int .i64 0, .int .i64 0]]) ∧ TokAt W (.slice a ts.length c) ts ∧ ok 5 (ts.map Tb.tk) ∧ (wr 5 (ts.map Tb.tk)).length ≤ 10 * s.size ∧ Sml ts ∧ ts.length ≤ 10 * s.size ∧ lex (bn s) = (ts.map Tb.tk, 0, 0, 0) ∧ ∀ t ∈ ts, 0 ≤ t.n ∧ 0 ≤ t.a := by
  obtain ⟨v, ts, hown, hts, hnn, rfl⟩ := h
  obtain ⟨r, e1, hb, hok, hl⟩ := lex_inv (s := bn s) (U.bn_bytes s) h0
  rw [e1] at hts ⊢
  simp only at hts
  subst hts
  rw [bn_length] at hl
  obtain ⟨p, q⟩ := ok_small hok
  rw [List.length_map] at p
  obtain ⟨a, c, rfl⟩ := hown.form
  exact ⟨a, c, ts, rfl, hown.at, hok, hl, read_sml q (by omega), by omega, rfl, hnn⟩
theorem wrt_two {l : List Tk} {e : Ending} (h : WrtR l e) : (∃ (v : Value) (ev : Int), ev ≠ 0 ∧ e = .returned (.tuple #[.string ⟨#[]⟩, .int .i64 ev])) ∨ (ok 5 l ∧ (wr 5 l).length ≤ 65536 ∧ ∃ u : ByteArray, bn u = wr 5 l ∧ e = .returned (.tuple #[.string u, .int .i64 0])) := by
  rcases h with ⟨_, rfl⟩ | ⟨_, _, rfl⟩ | h
  · exact .inl ⟨.int .i64 0, 2, by decide, rfl⟩
  · exact .inl ⟨.int .i64 0, 4, by decide, rfl⟩
  · exact .inr h
theorem wrt_read {l : List Tk} {e : Ending} (h : WrtR l e) (hok : ok 5 l) (hl : (wr 5 l).length ≤ 65536) : ∃ u : ByteArray, bn u = wr 5 l ∧ e = .returned (.tuple #[.string u, .int .i64 0]) := by
  rcases h with ⟨h, _⟩ | ⟨_, h, _⟩ | ⟨_, _, h⟩
  · exact absurd hok h
  · omega
  · exact h
theorem ln_back {u : ByteArray} {l : List Tb} {B : Nat} {e : Ending} {W : World} (hu : bn u = wr 5 (l.map Tb.tk)) (hok : ok 5 (l.map Tb.tk)) (hl : (wr 5 (l.map Tb.tk)).length ≤ 65536) (h : LnR (lex (bn u)) B e W) : ∃ (a : Option Addr) (c : Nat) (ts : List Tb), e = .returned (.tuple #[.slice a ts.length c, .agg #[.int .i64 0, .int .i64 0, .int .i64 0]]) ∧ TokAt W (.slice a ts.length c) ts ∧ sm true ts l = true ∧ ts.length = l.length := by
  obtain ⟨v, ts, hown, hts, hnn, rfl⟩ := h
  obtain ⟨l', e1, hk⟩ := lex_wr (bt l) hok hl
  rw [hu, e1] at hts ⊢
  simp only at hts
  subst hts
  obtain ⟨a, c, rfl⟩ := hown.form
  exact ⟨a, c, ts, rfl, hown.at, sm_kx hk, kx_len hk⟩
theorem u_size {u : ByteArray} {l : List Int} (h : bn u = l) (hl : l.length ≤ 65536) : u.size ≤ 65536 := by
  rw [← bn_length, h]; exact hl
end Go.Proofs.YtphkdagapoonjaaGreatDoor.Lx
namespace Go.Proofs.YtphkdagapoonjaaGreatDoor.U
open Go.RowKit

/-- The slice value v leads to the numbers zs (of kind int32). -/
def IntsAt (w : World) (v : Value) (zs : List Int) : Prop :=
  (zs = [] ∧ ∃ a cap, v = .slice a 0 cap) ∨ (0 < zs.length ∧ ∃ b off cap, v = .slice (some ⟨b, off, none⟩) zs.length cap ∧ ∀ j, j < zs.length → w.cell? ⟨b, off + j, none⟩ = some (.int .i32 (zs[j]?.getD 0)))
theorem lt_of_cell {w : World} {a : Addr} {v : Value} (h : w.cell? a = some v) : a.block < w.heap.size := by
  by_cases hb : a.block < w.heap.size
  · exact hb
  · simp [World.cell?, Array.getElem?_eq_none (Nat.le_of_not_lt hb)] at h
theorem IntsAt.below {A B : World} {n : Nat} (h : Below n A B) (hn : A.heap.size ≤ n) {v : Value} {zs : List Int} : IntsAt A v zs → IntsAt B v zs
  | .inl e => .inl e
  | .inr ⟨hp, b, off, cap, e, hc⟩ => .inr ⟨hp, b, off, cap, e, fun j hj => (h.cell (p := ⟨b, off + j, none⟩) (Nat.lt_of_lt_of_le (lt_of_cell (hc j hj)) hn)).trans (hc j hj)⟩
theorem IntsAt.own {w : World} {base : Nat} {v : Value} {n : Nat} {zs : List Int} (hn : n = zs.length) (h : w.ownsRow base 21 1 v n (zs.map (Value.int .i32))) : IntsAt w v zs := by
  subst hn
  rcases id h.2 with ⟨rfl, h0⟩ | ⟨g, cap, cur, rfl, _⟩
  · exact .inl ⟨List.length_eq_zero_iff.1 h0, _, _, rfl⟩
  · by_cases hz : zs.length = 0
    · exact .inl ⟨List.length_eq_zero_iff.1 hz, _, _, by rw [hz]⟩
    · refine .inr ⟨by omega, g, 0, cap, rfl, fun j hj => ?_⟩
      rw [Nat.zero_add, h.cellAt j (by omega), List.getElem?_map, List.getElem?_eq_getElem hj]
      rfl

theorem take_snoc_int (zs : List Int) (k : Nat) (h : k < zs.length) : zs.take (k + 1) = zs.take k ++ [zs[k]?.getD 0] := by
  rw [List.take_succ_eq_append_getElem h, List.getElem?_eq_getElem h]; rfl
theorem encs_take_snoc (zs : List Int) (k : Nat) (h : k < zs.length) : encs (zs.take (k + 1)) = encs (zs.take k) ++ enc (zs[k]?.getD 0) := by
  rw [take_snoc_int zs k h, encs_snoc]
theorem all_take_snoc (zs : List Int) (k : Nat) (h : k < zs.length) (ha : (zs.take k).all scal = true) (hs : scal (zs[k]?.getD 0) = true) : (zs.take (k + 1)).all scal = true := by
  rw [take_snoc_int zs k h, List.all_append, ha]; simp [hs]
theorem all_false (zs : List Int) (k : Nat) (h : k < zs.length) (hs : scal (zs[k]?.getD 0) = false) : zs.all scal = false := by
  rw [← List.take_append_drop (k + 1) zs, take_snoc_int zs k h, List.all_append, List.all_append]
  simp [hs]
theorem scal_bd {c : Int} (h : scal c = true) : 0 ≤ c ∧ c ≤ 1114111 := by
  unfold scal at h; rw [decide_eq_true_eq] at h; omega
theorem all_bd {zs : List Int} (h : zs.all scal = true) : ∀ c ∈ zs, 0 ≤ c ∧ c ≤ 1114111 := fun c hc => scal_bd (List.all_eq_true.1 h c hc)

/-- What utf.Encode answers. -/
def encR (zs : List Int) (t : ByteArray) (e : Int) : Prop := (zs.all scal = true ∧ e = 0 ∧ bn t = encs zs) ∨ (zs.all scal = false ∧ e = 2 ∧ t = ⟨#[]⟩)

end Go.Proofs.YtphkdagapoonjaaGreatDoor.U
namespace Go.Proofs.YtphkdagapoonjaaGreatDoor.U
open Go.RowKit

theorem bn_inj {s t : ByteArray} (h : bn s = bn t) : s = t := by
  unfold bn at h
  have h2 : s.data.toList = t.data.toList := by
    have : ∀ (a b : List UInt8), a.map (fun c => (c.toNat : Int)) = b.map (fun c => (c.toNat : Int)) → a = b := by
      intro a
      induction a with
      | nil => intro b hb; cases b with
        | nil => rfl
        | cons _ _ => simp at hb
      | cons x a ih => intro b hb; cases b with
        | nil => simp at hb
        | cons y b =>
          simp only [List.map_cons, List.cons.injEq] at hb
          have hxy : x = y := UInt8.toNat_inj.1 (by have := hb.1; omega)
          rw [ih b hb.2, hxy]
    exact this _ _ h
  cases s; cases t
  congr 1
  exact Array.toList_inj.1 h2
theorem drewN_drewN (w : World) (a b : Nat) : (w.drewN a).drewN b = w.drewN (a + b) := by simp [World.drewN, Nat.add_assoc]
theorem below_drewN (B : Nat) (w : World) (n : Nat) : Below B w (w.drewN n) := ⟨rfl, rfl, rfl, Nat.le_refl _, fun _ _ => rfl⟩

theorem ints_new (W : World) (zs : List Int) (hp : 0 < zs.length) (cap : Nat) : IntsAt (W.alloc (.cells (zs.map (Value.int .i32)).toArray 21)) (.slice (some ⟨W.heap.size, 0, none⟩) zs.length cap) zs := by
  refine .inr ⟨hp, W.heap.size, 0, cap, rfl, fun j hj => ?_⟩
  have := news_at W 21 (zs.map (Value.int .i32)) j (.int .i32 (zs[j]?.getD 0)) (by rw [List.getElem?_map, List.getElem?_eq_getElem hj]; rfl)
  rw [addr_add0] at this
  rw [Nat.zero_add]; exact this

end Go.Proofs.YtphkdagapoonjaaGreatDoor.U
namespace Go.Proofs.YtphkdagapoonjaaGreatDoor.U
open Go.RowKit

/-- What an append takes its numbers from. -/
def SrcInts (w : World) (u : Value) (zs : List Int) : Prop :=
  (u = .slice none 0 0 ∧ zs = []) ∨ ∃ ad c, u = .slice (some ad) zs.length c ∧ ∀ j, j < zs.length → w.cell? (ad.add j) = some (.int .i32 (zs[j]?.getD 0))

theorem SrcInts.own {w : World} {base : Nat} {v : Value} {n : Nat} {zs : List Int} (hn : n = zs.length) (h : w.ownsRow base 21 1 v n (zs.map (Value.int .i32))) : SrcInts w v zs := by
  subst hn
  rcases id h.2 with ⟨rfl, h0⟩ | ⟨g, cap, cur, rfl, _⟩
  · exact .inl ⟨rfl, List.length_eq_zero_iff.1 h0⟩
  · refine .inr ⟨⟨g, 0, none⟩, cap, rfl, fun j hj => ?_⟩
    rw [addr_add0, h.cellAt j (by omega), List.getElem?_map, List.getElem?_eq_getElem hj]
    rfl
theorem SrcInts.below {A B : World} {n : Nat} (h : Below n A B) (hn : A.heap.size ≤ n) {v : Value} {zs : List Int} : SrcInts A v zs → SrcInts B v zs
  | .inl e => .inl e
  | .inr ⟨ad, c, e, hc⟩ => .inr ⟨ad, c, e, fun j hj => (h.cell (p := ad.add j) (Nat.lt_of_lt_of_le (lt_of_cell (hc j hj)) hn)).trans (hc j hj)⟩

/-- A row of the call's own that is written leaves what lay below its base. -/
theorem below_grow {B : Nat} {w w1 w2 : World} {e : TypeId} {size : Nat} {v : Value} {n : Nat} {xs : List Value} (hB : Below B w w1) (hb : B ≤ w1.heap.size) (hown : w1.ownsRow B e size v n xs) (hg : w1.grownBy w2 v.ownBlock) : Below B w w2 :=
  hB.grown hg hb (fun j ej => by
    rcases hown.2 with ⟨rfl, _⟩ | ⟨g, cap, cur, rfl, hbg, _, _⟩
    · simp [Value.ownBlock] at ej
    · obtain rfl : g = j := by simpa [Value.ownBlock] using ej
      exact hbg)
theorem bn_append (a b : ByteArray) : bn (a ++ b) = bn a ++ bn b := by
  unfold bn
  rw [← List.map_append]
  congr 1
theorem ownsRow_below {base B : Nat} {e : TypeId} {size : Nat} {v : Value} {n : Nat} {xs : List Value} {w w' : World} (h : w.ownsRow base e size v n xs) (hb : Below B w w') (hB : w.heap.size ≤ B) : w'.ownsRow base e size v n xs := by
  rcases h with ⟨h1, ⟨rfl, h2⟩ | ⟨g, cap, cur, rfl, hbg, hg, h3⟩⟩
  · exact ⟨h1, .inl ⟨rfl, h2⟩⟩
  · have hlt : g < w.heap.size := (Array.getElem?_eq_some_iff.1 hg).1
    exact ⟨h1, .inr ⟨g, cap, cur, rfl, hbg, (hb.block g (by omega)).trans hg, h3⟩⟩
end Go.Proofs.YtphkdagapoonjaaGreatDoor.U
namespace Go.Proofs.YtphkdagapoonjaaGreatDoor.U
open Go.RowKit

set_option maxHeartbeats 400000 in
theorem refScalar_any (c : Int) (w : World) :
    Calls Tryz.prog 77 #[.int .i32 c] w fun e w' => e = .returned (.bool (scal c)) ∧ w' = w := by
  go_enter Tryz.func77, Tryz.ntmps77
  go_wp2
  all_goals (go_ret; exact ⟨ret_bool (by unfold scal; rw [Bool.eq_iff_iff]; simp; try omega), rfl⟩)

set_option maxRecDepth 100000 in
set_option maxHeartbeats 1000000 in
theorem bytes1 (c : Int) (h0 : 0 ≤ c) (h1 : c < 128) (w : World) :
    Calls Tryz.prog 78 #[.int .i32 c] w fun e W' => (∃ t, e = .returned (.string t) ∧ bn t = [c]) ∧ Below w.heap.size w W' := by
  obtain ⟨i0, hi, hz0, hz1, hz2⟩ := info_parts Tryz.info5
  have HB : Hid (Bytes [c]) := fun b hb => by simp at hb; omega
  go_enter Tryz.func78, Tryz.ntmps78
  go_wp2_with (at_builtin; refine wpList_append_own _ rfl _ _ 49 rfl w.heap.size 5 i0 (.int .u8 0) 1 1 Tryz.underlying49 hi hz0 hz1 hz2 rfl (by decide) _ 0 [] rfl (World.ownsRow_nil _ _ _ _) ⟨w.heap.size, 0, none⟩ 1 1 [.int .u8 (c)] rfl rfl (news_at _ _ _) (by simp [Value.oneCell']) (by unfold maxLen; omega) (by omega) (by simp) ?_; intro v' w1 hown' hgrow _; obtain ⟨t, hcv, ht⟩ := conv_string w1 w.heap.size v' 1 [c] rfl HB.out (by simpa using hown'))
  go_ret
  exact ⟨⟨t, rfl, ht⟩, below_grow (v := .slice none 0 0) (n := 0) (xs := []) ((Below.refl w.heap.size w).alloc (Nat.le_refl _) _) (by simp) (World.ownsRow_nil _ _ 5 1) hgrow⟩

set_option maxRecDepth 100000 in
set_option maxHeartbeats 1000000 in
theorem bytes2 (c : Int) (h0 : 128 ≤ c) (h1 : c < 2048) (w : World) :
    Calls Tryz.prog 78 #[.int .i32 c] w fun e W' => (∃ t, e = .returned (.string t) ∧ bn t = [192 + c / 64, 128 + c % 64]) ∧ Below w.heap.size w W' := by
  obtain ⟨i0, hi, hz0, hz1, hz2⟩ := info_parts Tryz.info5
  have HB : Hid (Bytes [192 + c / 64, 128 + c % 64]) := fun b hb => by simp at hb; omega
  go_enter Tryz.func78, Tryz.ntmps78
  go_wp2_with (at_builtin; refine wpList_append_own _ rfl _ _ 49 rfl w.heap.size 5 i0 (.int .u8 0) 1 1 Tryz.underlying49 hi hz0 hz1 hz2 rfl (by decide) _ 0 [] rfl (World.ownsRow_nil _ _ _ _) ⟨w.heap.size, 0, none⟩ 2 2 [.int .u8 (192 + c / 64), .int .u8 (128 + c % 64)] rfl rfl (news_at _ _ _) (by simp [Value.oneCell']) (by unfold maxLen; omega) (by omega) (by simp) ?_; intro v' w1 hown' hgrow _; obtain ⟨t, hcv, ht⟩ := conv_string w1 w.heap.size v' 2 [192 + c / 64, 128 + c % 64] rfl HB.out (by simpa using hown'))
  go_ret
  exact ⟨⟨t, rfl, ht⟩, below_grow (v := .slice none 0 0) (n := 0) (xs := []) ((Below.refl w.heap.size w).alloc (Nat.le_refl _) _) (by simp) (World.ownsRow_nil _ _ 5 1) hgrow⟩

set_option maxRecDepth 100000 in
set_option maxHeartbeats 1000000 in
theorem bytes3 (c : Int) (h0 : 2048 ≤ c) (h1 : c < 65536) (w : World) :
    Calls Tryz.prog 78 #[.int .i32 c] w fun e W' => (∃ t, e = .returned (.string t) ∧ bn t = [224 + c / 4096, 128 + c / 64 % 64, 128 + c % 64]) ∧ Below w.heap.size w W' := by
  obtain ⟨i0, hi, hz0, hz1, hz2⟩ := info_parts Tryz.info5
  have HB : Hid (Bytes [224 + c / 4096, 128 + c / 64 % 64, 128 + c % 64]) := fun b hb => by simp at hb; omega
  go_enter Tryz.func78, Tryz.ntmps78
  go_wp2_with (at_builtin; refine wpList_append_own _ rfl _ _ 49 rfl w.heap.size 5 i0 (.int .u8 0) 1 1 Tryz.underlying49 hi hz0 hz1 hz2 rfl (by decide) _ 0 [] rfl (World.ownsRow_nil _ _ _ _) ⟨w.heap.size, 0, none⟩ 3 3 [.int .u8 (224 + c / 4096), .int .u8 (128 + c / 64 % 64), .int .u8 (128 + c % 64)] rfl rfl (news_at _ _ _) (by simp [Value.oneCell']) (by unfold maxLen; omega) (by omega) (by simp) ?_; intro v' w1 hown' hgrow _; obtain ⟨t, hcv, ht⟩ := conv_string w1 w.heap.size v' 3 [224 + c / 4096, 128 + c / 64 % 64, 128 + c % 64] rfl HB.out (by simpa using hown'))
  go_ret
  exact ⟨⟨t, rfl, ht⟩, below_grow (v := .slice none 0 0) (n := 0) (xs := []) ((Below.refl w.heap.size w).alloc (Nat.le_refl _) _) (by simp) (World.ownsRow_nil _ _ 5 1) hgrow⟩

set_option maxRecDepth 100000 in
set_option maxHeartbeats 1000000 in
theorem bytes4 (c : Int) (h0 : 65536 ≤ c) (h1 : c < 1114112) (w : World) :
    Calls Tryz.prog 78 #[.int .i32 c] w fun e W' => (∃ t, e = .returned (.string t) ∧ bn t = [240 + c / 262144, 128 + c / 4096 % 64, 128 + c / 64 % 64, 128 + c % 64]) ∧ Below w.heap.size w W' := by
  obtain ⟨i0, hi, hz0, hz1, hz2⟩ := info_parts Tryz.info5
  have HB : Hid (Bytes [240 + c / 262144, 128 + c / 4096 % 64, 128 + c / 64 % 64, 128 + c % 64]) := fun b hb => by simp at hb; omega
  go_enter Tryz.func78, Tryz.ntmps78
  go_wp2_with (at_builtin; refine wpList_append_own _ rfl _ _ 49 rfl w.heap.size 5 i0 (.int .u8 0) 1 1 Tryz.underlying49 hi hz0 hz1 hz2 rfl (by decide) _ 0 [] rfl (World.ownsRow_nil _ _ _ _) ⟨w.heap.size, 0, none⟩ 4 4 [.int .u8 (240 + c / 262144), .int .u8 (128 + c / 4096 % 64), .int .u8 (128 + c / 64 % 64), .int .u8 (128 + c % 64)] rfl rfl (news_at _ _ _) (by simp [Value.oneCell']) (by unfold maxLen; omega) (by omega) (by simp) ?_; intro v' w1 hown' hgrow _; obtain ⟨t, hcv, ht⟩ := conv_string w1 w.heap.size v' 4 [240 + c / 262144, 128 + c / 4096 % 64, 128 + c / 64 % 64, 128 + c % 64] rfl HB.out (by simpa using hown'))
  go_ret
  exact ⟨⟨t, rfl, ht⟩, below_grow (v := .slice none 0 0) (n := 0) (xs := []) ((Below.refl w.heap.size w).alloc (Nat.le_refl _) _) (by simp) (World.ownsRow_nil _ _ 5 1) hgrow⟩

theorem refBytes_any (c : Int) (h0 : 0 ≤ c) (h1 : c ≤ 1114111) (w : World) :
    Calls Tryz.prog 78 #[.int .i32 c] w fun e W' => (∃ t, e = .returned (.string t) ∧ bn t = enc c) ∧ Below w.heap.size w W' := by
  unfold enc
  by_cases q1 : c < 128
  · rw [if_pos q1]; exact bytes1 c h0 q1 w
  · rw [if_neg q1]
    by_cases q2 : c < 2048
    · rw [if_pos q2]; exact bytes2 c (by omega) q2 w
    · rw [if_neg q2]
      by_cases q3 : c < 65536
      · rw [if_pos q3]; exact bytes3 c (by omega) q3 w
      · rw [if_neg q3]; exact bytes4 c (by omega) (by omega) w

/-- What the document's Encode answers. -/
def encQ (zs : List Int) (t : ByteArray) (e : Bool) : Prop := (zs.all scal = true ∧ e = true ∧ bn t = encs zs) ∨ (zs.all scal = false ∧ e = false ∧ t = ⟨#[]⟩)

end Go.Proofs.YtphkdagapoonjaaGreatDoor.U
namespace Go.Proofs.YtphkdagapoonjaaGreatDoor.U
open Go.RowKit

def valR : List Int → Int
  | [a] => a
  | [a, b] => (a - 192) * 64 + b - 128
  | [a, b, c] => ((a - 224) * 64 + b - 128) * 64 + c - 128
  | [a, b, c, d] => (((a - 240) * 64 + b - 128) * 64 + c - 128) * 64 + d - 128
  | _ => 0
def wholeR (l : List Int) : Bool := scal (valR l) && decide (enc (valR l) = l)
def begL : List Int → Bool
  | [a, b] => decide ((194 ≤ a ∧ a ≤ 223 ∧ 128 ≤ b ∧ b ≤ 191) ∨ (224 ≤ a ∧ a ≤ 244 ∧ lowOf a ≤ b ∧ b ≤ highOf a))
  | [a, b, c] => decide (224 ≤ a ∧ a ≤ 244 ∧ lowOf a ≤ b ∧ b ≤ highOf a ∧ 128 ≤ c ∧ c ≤ 191)
  | _ => false

theorem val_enc (c : Int) : valR (enc c) = c := by
  unfold enc
  by_cases q1 : c < 128
  · rw [if_pos q1]; rfl
  · rw [if_neg q1]
    by_cases q2 : c < 2048
    · rw [if_pos q2]; simp only [valR]; omega
    · rw [if_neg q2]
      by_cases q3 : c < 65536
      · rw [if_pos q3]; simp only [valR]; omega
      · rw [if_neg q3]; simp only [valR]; omega

/-- The document's whole is what is whole at the front, of just its bytes. -/
theorem whole_iff (l : List Int) (hne : l ≠ []) (hl : Bytes l) (n : Nat) (_h1 : 1 ≤ n) (hn : n ≤ l.length) :
    (wholeR (l.take n) = true → nx l = (valR (l.take n), n, true)) ∧ ((nx l).2.2 = true → (nx l).2.1 = n → wholeR (l.take n) = true) := by
  constructor
  · intro h
    unfold wholeR at h
    rw [Bool.and_eq_true, decide_eq_true_eq] at h
    have hx := nx_enc _ h.1 (l.drop n)
    rw [h.2, List.take_append_drop] at hx
    rw [hx, List.length_take]
    congr 2
    omega
  · intro hw hn'
    have he := (nx_whole l hne hl hw).2.1
    have hs := nx_scal l hne hl
    rw [hn'] at he
    unfold wholeR
    rw [← he, val_enc, hs]
    simp

/-- Where nothing is whole: how many bytes the sign stands for, told by the document's begins. -/
theorem nx_fail (l : List Int) (hne : l ≠ []) (hl : Bytes l) (hw : (nx l).2.2 = false) :
    nx l = (65533, (nx l).2.1, false) ∧ (nx l).2.1 ≤ 3 ∧ (∀ k, 1 ≤ k → k < (nx l).2.1 → begL (l.take (k + 1)) = true) ∧ ((nx l).2.1 < l.length → (nx l).2.1 < 3 → begL (l.take ((nx l).2.1 + 1)) = false) := by
  match l with
  | [] => exact absurd rfl hne
  | a :: t =>
    have ha := hl a (by simp)
    by_cases h8 : a < 128
    · rw [nx_w1 a t h8] at hw; cases hw
    rcases follow_cases a with hf | ⟨hf, h1, h2⟩ | ⟨hf, h1, h2⟩ | ⟨hf, h1, h2⟩
    · have e : nx (a :: t) = (65533, 1, false) := by rw [nx, if_neg h8, if_pos hf]
      rw [e]
      refine ⟨rfl, by decide, fun k g1 g2 => by simp only at g2; omega, fun g1 _ => ?_⟩
      match t with
      | [] => simp at g1
      | b :: t =>
        show begL [a, b] = false
        have hout : ¬ (194 ≤ a ∧ a ≤ 244) := by
          unfold follow at hf
          by_cases q3 : 240 ≤ a ∧ a ≤ 244
          · rw [if_pos q3] at hf; cases hf
          · rw [if_neg q3] at hf
            by_cases q2 : 224 ≤ a ∧ a ≤ 239
            · rw [if_pos q2] at hf; cases hf
            · rw [if_neg q2] at hf
              by_cases q1 : 194 ≤ a ∧ a ≤ 223
              · rw [if_pos q1] at hf; cases hf
              · omega
        simp only [begL, decide_eq_false_iff_not]; omega
    · have hl1 : lowOf a = 128 := by unfold lowOf; rw [if_neg (by omega), if_neg (by omega)]
      have hh1 : highOf a = 191 := by unfold highOf; rw [if_neg (by omega), if_neg (by omega)]
      have e : nx (a :: t) = nxl 1 t 1 (a % 32) 128 191 := by rw [nx, if_neg h8, hf, hl1, hh1]; rfl
      match t with
      | [] =>
        have e2 : nx [a] = (65533, 1, false) := by rw [e]; rfl
        rw [e2]
        exact ⟨rfl, by decide, fun k g1 g2 => by simp only at g2; omega, fun g1 _ => by simp at g1⟩
      | b :: t =>
        by_cases hb : b < 128 ∨ 191 < b
        · have e2 : nx (a :: b :: t) = (65533, 1, false) := by rw [e, nxl, if_pos hb]
          rw [e2]
          refine ⟨rfl, by decide, fun k g1 g2 => by simp only at g2; omega, fun _ _ => ?_⟩
          show begL [a, b] = false
          simp only [begL, decide_eq_false_iff_not]; omega
        · rw [nx_w2 a b t h1 h2 (by omega) (by omega)] at hw; cases hw
    · have q1 := low_ge a
      have q2 := high_le a
      have e := fun t => nx_e3 a t h1 h2
      match t with
      | [] =>
        have e2 : nx [a] = (65533, 1, false) := by rw [e]; rfl
        rw [e2]
        exact ⟨rfl, by decide, fun k g1 g2 => by simp only at g2; omega, fun g1 _ => by simp at g1⟩
      | b :: t =>
        by_cases hb : b < lowOf a ∨ highOf a < b
        · have e2 : nx (a :: b :: t) = (65533, 1, false) := by rw [e, nxl, if_pos hb]
          rw [e2]
          refine ⟨rfl, by decide, fun k g1 g2 => by simp only at g2; omega, fun _ _ => ?_⟩
          show begL [a, b] = false
          simp only [begL, decide_eq_false_iff_not]; omega
        · have hb1 : begL [a, b] = true := by simp only [begL, decide_eq_true_eq]; omega
          match t with
          | [] =>
            have e2 : nx [a, b] = (65533, 2, false) := by rw [e, nxl, if_neg hb]; rfl
            rw [e2]
            refine ⟨rfl, by decide, fun k g1 g2 => ?_, fun g1 _ => by simp at g1⟩
            obtain rfl : k = 1 := by simp only at g2; omega
            exact hb1
          | c :: t =>
            by_cases hc : c < 128 ∨ 191 < c
            · have e2 : nx (a :: b :: c :: t) = (65533, 2, false) := by rw [e, nxl, if_neg hb, nxl, if_pos hc]
              rw [e2]
              refine ⟨rfl, by decide, fun k g1 g2 => ?_, fun _ _ => ?_⟩
              · obtain rfl : k = 1 := by simp only at g2; omega
                exact hb1
              · show begL [a, b, c] = false
                simp only [begL, decide_eq_false_iff_not]; omega
            · rw [nx_w3 a b c t h1 h2 (by omega) (by omega) (by omega) (by omega)] at hw; cases hw
    · have q1 := low_ge a
      have q2 := high_le a
      have e := fun t => nx_e4 a t h1 h2
      match t with
      | [] =>
        have e2 : nx [a] = (65533, 1, false) := by rw [e]; rfl
        rw [e2]
        exact ⟨rfl, by decide, fun k g1 g2 => by simp only at g2; omega, fun g1 _ => by simp at g1⟩
      | b :: t =>
        by_cases hb : b < lowOf a ∨ highOf a < b
        · have e2 : nx (a :: b :: t) = (65533, 1, false) := by rw [e, nxl, if_pos hb]
          rw [e2]
          refine ⟨rfl, by decide, fun k g1 g2 => by simp only at g2; omega, fun _ _ => ?_⟩
          show begL [a, b] = false
          simp only [begL, decide_eq_false_iff_not]; omega
        · have hb1 : begL [a, b] = true := by simp only [begL, decide_eq_true_eq]; omega
          match t with
          | [] =>
            have e2 : nx [a, b] = (65533, 2, false) := by rw [e, nxl, if_neg hb]; rfl
            rw [e2]
            refine ⟨rfl, by decide, fun k g1 g2 => ?_, fun g1 _ => by simp at g1⟩
            obtain rfl : k = 1 := by simp only at g2; omega
            exact hb1
          | c :: t =>
            by_cases hc : c < 128 ∨ 191 < c
            · have e2 : nx (a :: b :: c :: t) = (65533, 2, false) := by rw [e, nxl, if_neg hb, nxl, if_pos hc]
              rw [e2]
              refine ⟨rfl, by decide, fun k g1 g2 => ?_, fun _ _ => ?_⟩
              · obtain rfl : k = 1 := by simp only at g2; omega
                exact hb1
              · show begL [a, b, c] = false
                simp only [begL, decide_eq_false_iff_not]; omega
            · have hc1 : begL [a, b, c] = true := by simp only [begL, decide_eq_true_eq]; omega
              have hk : ∀ r k, 1 ≤ k → k < 3 → begL ((a :: b :: c :: r).take (k + 1)) = true := fun r k g1 g2 => by
                have : k = 1 ∨ k = 2 := by omega
                rcases this with rfl | rfl
                · exact hb1
                · exact hc1
              match t with
              | [] =>
                have e2 : nx [a, b, c] = (65533, 3, false) := by rw [e, nxl, if_neg hb, nxl, if_neg hc]; rfl
                rw [e2]
                exact ⟨rfl, by decide, fun k g1 g2 => hk [] k g1 g2, fun g1 _ => by simp at g1⟩
              | d :: t =>
                by_cases hd : d < 128 ∨ 191 < d
                · have e2 : nx (a :: b :: c :: d :: t) = (65533, 3, false) := by rw [e, nxl, if_neg hb, nxl, if_neg hc, nxl, if_pos hd]
                  rw [e2]
                  exact ⟨rfl, by decide, fun k g1 g2 => hk _ k g1 g2, fun _ g2 => by simp at g2⟩
                · rw [nx_w4 a b c d t h1 h2 (by omega) (by omega) (by omega) (by omega) (by omega) (by omega)] at hw; cases hw
end Go.Proofs.YtphkdagapoonjaaGreatDoor.U
