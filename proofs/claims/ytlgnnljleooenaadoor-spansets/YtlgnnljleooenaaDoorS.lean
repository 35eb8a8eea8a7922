/- The contract of sort.Slice as edges calls it: the row holds a permutation of what it held, rising by Lo. -/
import Derived.Test.YtlgnnljleooenaaDoorB
import Derived.Test.YtlgnnljleooenaaDoorP
import Derived.Shelf.SlSortFuncK.WholeK
import Derived.Shelf.GgSortFunc.Tiny
import Derived.Shelf.Lay
import Derived.Ground.GgsProg
namespace Go.Proofs.YtlgnnljleooenaaDoor
open Go.Shelf Go.RowKit Go.Lib Go.Sort
set_option linter.unusedVariables false

shelf_lay LaysGg.n6 Ggs 6 at Tryd as Tryd.sv6
theorem svK (n : Nat) (h2 : 2 ≤ n) : Lib.swapperK n ((Tryd.prog.info? 44).get (by kernel_rfl)) 25 = 5 := by
  have a : ((Tryd.prog.info? 44).get (by kernel_rfl)).hasPointers = false := by kernel_rfl
  have b : ((Tryd.prog.info? 44).get (by kernel_rfl)).bytes = 8 := by kernel_rfl
  have c : (n == 0) = false := by simp; omega
  have d : (n == 1) = false := by simp; omega
  simp [Lib.swapperK, a, b, c, d]
def ltLo (a b : Sp) : Bool := decide (a.1 < b.1)
theorem swo_ltLo : SWO ltLo where
  irrefl := fun x => by simp [ltLo]
  trans := fun x y z h1 h2 => by simp [ltLo] at *; omega
  ntrans := fun x y z h1 h2 => by simp [ltLo] at *; omega

set_option maxRecDepth 100000 in
set_option maxHeartbeats 2000000 in
theorem less_any (blk off c Bs size : Nat) (W : World) (G : Nat → Int) (hs : W.cell? ⟨Bs, 0, none⟩ = some (.slice (some ⟨blk, off, none⟩) size c))
    (hc : ∀ t, t < size → W.cell? ⟨blk, off + t * 2, none⟩ = some (.int .i32 (G t))) (i j : Nat) (hi : i < size) (hj : j < size) (_hsz : size < 4611686018427387904) :
    Calls Tryd.prog 43 #[.int .i64 i, .int .i64 j, .pointer (some ⟨Bs, 0, none⟩)] W fun e w' => e = .returned (.bool (decide (G i < G j))) ∧ ∃ q, w' = W.drewN q := by
  have ci := hc i hi
  have cj := hc j hj
  go_enter Tryd.func43, Tryd.ntmps43
  go_wp2
  go_quiet (fail)
  go_wp2
  go_ret
  exact ⟨rfl, nq, rfl⟩

theorem sort_two (blk off c Bs : Nat) (d : Array Sp) (h2 : 2 ≤ d.size) (hsz : d.size < 4611686018427387904) (w : World) (hH : HoldsK cells2 2 w blk off d) (hblk : blk < w.heap.size)
    (hBs : w.cell? ⟨Bs, 0, none⟩ = some (.slice (some ⟨blk, off, none⟩) d.size c)) (hB1 : Bs < w.heap.size) (hB2 : Bs ≠ blk) :
    Calls Tryd.prog 42 #[.iface 22 (.slice (some ⟨blk, off, none⟩) d.size c), .func (.func 43) #[] #[.pointer (some ⟨Bs, 0, none⟩)]] w fun e w' =>
      e = .returned (.tuple #[]) ∧ ∃ d' n os, PermIn 0 d.size d d' ∧ SortedIn ltLo 0 d.size d' ∧ w' = grow (putRowK cells2 2 (Sort.ahead w n) blk off d') os := by
  have hless : LessReadsK Tryd.prog 43 #[.pointer (some ⟨Bs, 0, none⟩)] cells2 2 ltLo blk off d.size w := by
    intro m os dk hs i j hi hj
    have e : sortWorldK cells2 2 w blk off m dk os = putRowK cells2 2 (grow (Sort.ahead w m) os) blk off dk := by
      unfold sortWorldK; rw [putRowK_grow _ _ (Sort.ahead w m) _ blk off _ hblk]
    have hHg : HoldsK cells2 2 (grow (Sort.ahead w m) os) blk off d := holdsK_grow _ _ _ _ blk off d hblk (holdsK_ahead _ _ _ _ _ _ _ hH)
    refine less_any blk off c Bs d.size _ (fun t => dk[t]!.1) ?_ (fun t ht => ?_) i j hi hj (by omega)
    · rw [e, cell?_putRowK_other _ _ _ blk off dk _ (by exact hB2), cell?_grow _ _ _ (by exact hB1)]; exact hBs
    · rw [e]; exact ((holdsK_putRowK _ _ _ blk off d dk hHg hs).cell (i := t) (c := 0) (by omega) (by omega)).1
  exact Any.sort_Slice_cells_sorted Tryd.sv6 22 44 ((Tryd.prog.info? 22).get (by kernel_rfl)) ((Tryd.prog.info? 44).get (by kernel_rfl)) (by kernel_rfl) (by kernel_rfl) (by kernel_rfl) (by kernel_rfl) 25 (fun _ => by kernel_rfl) cells2 2 (fun _ => rfl) (by kernel_rfl) (fun _ => by kernel_rfl)
    (fun x v hv => by simp [cells2] at hv; rcases hv with rfl | rfl <;> rfl) ltLo swo_ltLo 43 _
    (enters_of Tryd.func43 (by kernel_rfl) rfl) blk off c d h2 hsz 60 (by rw [svK _ h2]; kernel_rfl) true
    (fun args W => run_callFunc_extern Tryd.func60 (by kernel_rfl) (by kernel_rfl) (by kernel_rfl) (e := Extern.ReflectliteSwapper.swap true) (by kernel_rfl) args W) w hless hH hblk

theorem sort_tiny (p : Option Addr) (n c : Nat) (h1 : n ≤ 1) (lb : Array Value) (w : World) :
    Calls Tryd.prog 42 #[.iface 22 (.slice p n c), .func (.func 43) #[] lb] w fun e w' => e = .returned (.tuple #[]) ∧ ∃ os, w' = grow w os := by
  have h : n = 0 ∨ n = 1 := by omega
  rcases h with rfl | rfl
  · exact Any.sort_Slice_tiny Tryd.sv6 22 44 ((Tryd.prog.info? 22).get (by kernel_rfl)) ((Tryd.prog.info? 44).get (by kernel_rfl)) (by kernel_rfl) (by kernel_rfl) (by kernel_rfl) (by kernel_rfl) 25 (fun _ => by kernel_rfl) p 0 c (by omega) 56 (by kernel_rfl) _ _ _ w
  · exact Any.sort_Slice_tiny Tryd.sv6 22 44 ((Tryd.prog.info? 22).get (by kernel_rfl)) ((Tryd.prog.info? 44).get (by kernel_rfl)) (by kernel_rfl) (by kernel_rfl) (by kernel_rfl) (by kernel_rfl) 25 (fun _ => by kernel_rfl) p 1 c (by omega) 57 (by kernel_rfl) _ _ _ w

theorem holds_own {w : World} {base g cap : Nat} {l : List Sp} (h : w.ownsRow base 44 2 (.slice (some ⟨g, 0, none⟩) l.length cap) l.length (flat2 l)) : HoldsK cells2 2 w g 0 l.toArray := by
  have hS : SpansAt w _ l := SpansAt.own rfl h
  rcases id h.2 with ⟨e, _⟩ | ⟨g', cap', cur, e, hb, hg, _⟩
  · cases e
  · simp only [Value.slice.injEq, Option.some.injEq, Addr.mk.injEq] at e
    obtain ⟨⟨rfl, -⟩, -, rfl⟩ := e
    intro j hj
    rw [size_flatK] at hj
    have hj' : j < l.length * 2 := by simpa using hj
    refine ⟨?_, by simp [World.frozen?, hg]⟩
    rw [get_flatK _ _ _ _ (by simpa using hj'), Nat.zero_add, h.cellAt j hj']
    have hlt : j / 2 < l.length := by omega
    have e1 : l.toArray[j / 2]! = l[j / 2]?.getD (0, 0) := by
      rw [getElem!_pos l.toArray (j / 2) (by simpa using hlt), List.getElem?_eq_getElem hlt]; simp
    rw [e1]
    have g2 := flat2_get l (j / 2) hlt
    rcases Nat.mod_two_eq_zero_or_one j with h0 | h1
    · have e : j / 2 * 2 = j := by omega
      rw [e] at g2; rw [g2.1, h0]; rfl
    · have e : j / 2 * 2 + 1 = j := by omega
      rw [e] at g2; rw [g2.2, h1]; rfl

theorem grown_sorted {w : World} {g n : Nat} {os : Array Obj} (d : Array Sp) : w.grownBy (grow (putRowK cells2 2 (Sort.ahead w n) g 0 d) os) (some g) := by
  refine ⟨rfl, rfl, rfl, by rw [size_grow, size_putRowK]; exact Nat.le_add_right _ _, fun k hk hne => ?_⟩
  rw [heap_grow_old _ _ (by rw [size_putRowK]; exact hk)]
  have : g ≠ k := fun e => hne (by rw [e])
  simp [putRowK, putRow, mapBlock, Sort.ahead, Array.getElem?_modify, this]

theorem sort_spans (B : Nat) (v : Value) (l : List Sp) (Bs : Nat) (w : World) (hlen : l.length ≤ 17179869184) (hown : w.ownsRow B 44 2 v l.length (flat2 l)) (hBs : w.cell? ⟨Bs, 0, none⟩ = some v) (hB1 : Bs < w.heap.size) (hB : B ≤ w.heap.size) (hne : v.ownBlock ≠ some Bs) :
    Calls Tryd.prog 42 #[.iface 22 v, .func (.func 43) #[] #[.pointer (some ⟨Bs, 0, none⟩)]] w fun e w' =>
      e = .returned (.tuple #[]) ∧ ∃ l', l'.Perm l ∧ l'.Pairwise (fun s t => s.1 ≤ t.1) ∧ SpansAt w' v l' ∧ w'.cell? ⟨Bs, 0, none⟩ = some v ∧ Below B w w' := by
  by_cases h2 : 2 ≤ l.length
  · rcases id hown.2 with ⟨_, h0⟩ | ⟨g, cap, cur, rfl, hg, hblk, _⟩
    · omega
    · have hgl : g < w.heap.size := (Array.getElem?_eq_some_iff.1 hblk).1
      have hH := holds_own hown
      have hne' : Bs ≠ g := fun e => hne (by rw [e]; rfl)
      have hc := sort_two g 0 cap Bs l.toArray (by simpa using h2) (by simp; omega) w hH hgl (by simpa using hBs) hB1 hne'
      have hsz : l.toArray.size = l.length := by simp
      rw [hsz] at hc
      refine hc.mono ?_
      rintro e w' ⟨rfl, d', n, os, hp, hs, rfl⟩
      have hds : d'.size = l.length := by simpa using hp.1
      refine ⟨rfl, d'.toList, ?_, ?_, ?_, ?_, ?_⟩
      · have := hp.2.2
        rw [Array.extract_eq_self_of_le (by omega), Array.extract_eq_self_of_le (by simp)] at this
        simpa using this
      · rw [List.pairwise_iff_getElem]
        intro i j hi hj hij
        have := hs i j (Nat.zero_le _) hij (by simpa [hds] using hj)
        rw [getElem!_pos d' j (by simpa using hj), getElem!_pos d' i (by simpa using hi)] at this
        unfold ltLo at this
        rw [decide_eq_false_iff_not] at this
        simp only [Array.getElem_toList]
        omega
      · have hHp : HoldsK cells2 2 (grow (putRowK cells2 2 (Sort.ahead w n) g 0 d') os) g 0 d' :=
          holdsK_grow _ _ _ _ _ _ _ (by rw [size_putRowK]; exact hgl) (holdsK_putRowK _ _ _ _ _ l.toArray d' (holdsK_ahead _ _ _ _ _ _ _ hH) (by simpa using hds))
        refine ⟨_, cap, by simp [hds], (fun e => by cases e), fun hp => ⟨g, 0, rfl, fun j hj => ?_⟩⟩
        have hj' : j < d'.size := by simpa using hj
        have c0 := (hHp.cell (i := j) (c := 0) hj' (by omega)).1
        have c1 := (hHp.cell (i := j) (c := 1) hj' (by omega)).1
        have e1 : d'[j]! = d'.toList[j]?.getD (0, 0) := by
          rw [getElem!_pos d' j hj', List.getElem?_eq_getElem hj]; simp
        rw [e1] at c0 c1
        exact ⟨c0, c1⟩
      · rw [cell?_grow _ _ _ (by rw [size_putRowK]; exact hB1), cell?_putRowK_other _ _ _ _ _ _ _ hne']; exact hBs
      · exact (Below.refl B w).grown (grown_sorted d') hB (fun k hk => by cases hk; exact hg)
  · have hv : ∃ p c, v = .slice p l.length c := by
      rcases id hown.2 with ⟨rfl, h0⟩ | ⟨g, cap, cur, rfl, _⟩
      · exact ⟨none, 0, by rw [h0]⟩
      · exact ⟨_, _, rfl⟩
    obtain ⟨p, c, rfl⟩ := hv
    refine (sort_tiny p l.length c (by omega) _ w).mono ?_
    rintro e w' ⟨rfl, os, rfl⟩
    have hbel : ∀ C, C ≤ w.heap.size → Below C w (grow w os) := fun C hC => ⟨rfl, rfl, rfl, by rw [size_grow]; exact Nat.le_add_right _ _, fun k hk => heap_grow_old w os (by omega)⟩
    refine ⟨rfl, l, List.Perm.refl _, ?_, (SpansAt.own rfl hown).below (hbel _ (Nat.le_refl _)) (Nat.le_refl _), ?_, hbel B hB⟩
    · rcases l with _ | ⟨s, _ | ⟨t, l⟩⟩
      · simp
      · simp
      · simp at h2
    · rw [cell?_grow _ _ _ hB1]; exact hBs
end Go.Proofs.YtlgnnljleooenaaDoor
