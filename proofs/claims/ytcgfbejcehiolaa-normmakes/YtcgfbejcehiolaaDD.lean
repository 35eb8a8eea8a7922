/- What is told by a switch: distance, instead, single, Like, and the document's Like. -/
import Derived.Test.YtcgfbejcehiolaaDC
namespace Go.Proofs.Ytcgfbejcehiolaa.D
open Go.RowKit Go.Lib Go.Sort Go.Shelf
set_option linter.unusedVariables false

/-- The slice value v leads to the numbers zs, all that its block holds. -/
def IntsAt (w : World) (v : Value) (zs : List Int) : Prop :=
  ∃ a cap, v = .slice a zs.length cap ∧ ((a = none → cap = 0) ∧ zs.length ≤ cap) ∧ (0 < zs.length → ∃ b, a = some ⟨b, 0, none⟩ ∧ w.heap[b]? = some (.cells (zs.map (Value.int .i32)).toArray 21 (0, 0)))
theorem IntsAt.below {A B : World} {n : Nat} (h : Below n A B) (hn : A.heap.size ≤ n) {v : Value} {l : List Int} : IntsAt A v l → IntsAt B v l
  | ⟨a, cap, e, hc, f⟩ => ⟨a, cap, e, hc, fun hp => by
      obtain ⟨b, e2, g⟩ := f hp
      exact ⟨b, e2, (h.block b (Nat.lt_of_lt_of_le (Array.getElem?_eq_some_iff.1 g).1 hn)).trans g⟩⟩
theorem IntsAt.nil (w : World) : IntsAt w (.slice none 0 0) [] := ⟨none, 0, rfl, ⟨fun _ => rfl, Nat.le_refl _⟩, fun h => by simp at h⟩
theorem IntsAt.new1 (w : World) (a : Int) : IntsAt (w.alloc (.cells #[.int .i32 a] 21)) (.slice (some ⟨w.heap.size, 0, none⟩) 1 1) [a] :=
  ⟨_, 1, rfl, ⟨(fun h => by cases h), Nat.le_refl _⟩, fun _ => ⟨w.heap.size, rfl, heap_alloc_last w _⟩⟩
theorem IntsAt.new2 (w : World) (a b : Int) : IntsAt (w.alloc (.cells #[.int .i32 a, .int .i32 b] 21)) (.slice (some ⟨w.heap.size, 0, none⟩) 2 2) [a, b] :=
  ⟨_, 2, rfl, ⟨(fun h => by cases h), Nat.le_refl _⟩, fun _ => ⟨w.heap.size, rfl, heap_alloc_last w _⟩⟩
/-- It answers these numbers, as a slice. -/
def Ans (l : List Int) (w : World) (e : Ending) (W' : World) : Prop := (∃ v, e = .returned v ∧ IntsAt W' v l) ∧ Below w.heap.size w W'
theorem Ans.nil {l : List Int} {w W' : World} (h : l = []) (hb : Below w.heap.size w W') : Ans l w (.returned (.slice none 0 0)) W' := by
  subst h; exact ⟨⟨_, rfl, IntsAt.nil _⟩, hb⟩
theorem Ans.one {l : List Int} {w W : World} {a : Int} (h : l = [a]) (hb : Below w.heap.size w W) : Ans l w (.returned (.slice (some ⟨W.heap.size, 0, none⟩) 1 1)) (W.alloc (.cells #[.int .i32 a] 21)) := by
  subst h; exact ⟨⟨_, rfl, IntsAt.new1 _ _⟩, hb.alloc hb.size _⟩
theorem Ans.two {l : List Int} {w W : World} {a b : Int} (h : l = [a, b]) (hb : Below w.heap.size w W) : Ans l w (.returned (.slice (some ⟨W.heap.size, 0, none⟩) 2 2)) (W.alloc (.cells #[.int .i32 a, .int .i32 b] 21)) := by
  subst h; exact ⟨⟨_, rfl, IntsAt.new2 _ _ _⟩, hb.alloc hb.size _⟩

/-- What looks like something else. -/
def likeT : List (Int × List Int) := [(48, [111]), (49, [108]), (109, [114, 110]), (945, [97]), (957, [118]), (959, [111]), (961, [112]), (1072, [97]), (1077, [101]), (1086, [111]), (1088, [112]), (1089, [99]), (1091, [121]), (1093, [120]), (1109, [115]), (1110, [105]), (1112, [106]), (1505, [111]), (1575, [108]), (12540, [19968])]
def lk (r : Int) : List Int := (likeT.lookup r).getD [r]

/-- How much is added. -/
def distT : List (Int × Int) := [(65, 32), (192, 32), (216, 32), (913, 32), (931, 32), (1040, 32), (178, -128), (904, 37), (910, 63), (1029, 80), (65296, -65248), (65345, -65248), (65313, -65216), (66560, 40)]
def dist (r : Int) : Int := (distT.lookup r).getD 0
/-- What one is mapped to alone. -/
def instT : List (Int × List Int) := [(170, [97]), (185, [49]), (186, [111]), (376, [255]), (469, [470]), (902, [940]), (908, [972]), (1025, [1105]), (1032, [1112]), (7776, [7777]), (7778, [7779]), (7784, [7785]), (7838, [115, 115]), (8486, [969]), (8490, [107]), (8491, [229]), (12290, [46]), (65294, [46]), (65377, [46]), (64257, [102, 105]), (65285, [37]), (65293, [45]), (65295, [47])]
def inst (r : Int) : List Int := (instT.lookup r).getD []
def sgl (r : Int) : Int := (([(8486, 937), (8490, 75), (8491, 197)] : List (Int × Int)).lookup r).getD 0

set_option maxRecDepth 100000 in
set_option maxHeartbeats 1600000 in
theorem single_any (r : Int) (w : World) : Calls Try.prog 74 #[.int .i32 r] w fun e W' => e = .returned (.int .i32 (sgl r)) ∧ W' = w := by
  obtain ⟨L, hL⟩ : ∃ L, L = sgl r := ⟨_, rfl⟩
  have HL := hid' hL
  rw [← hL]
  clear hL
  go_enter Try.func74, Try.ntmps74
  go_wp2
  all_goals go_ret
  all_goals refine ⟨?_, rfl⟩
  all_goals rw [HL.out]
  all_goals clear HL
  all_goals first | (rename_i h; obtain rfl := eq_of_beq h; rfl) | (simp [sgl, List.lookup, *]; done)
end Go.Proofs.Ytcgfbejcehiolaa.D
