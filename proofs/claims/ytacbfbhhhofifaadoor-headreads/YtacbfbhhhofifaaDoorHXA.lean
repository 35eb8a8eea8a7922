/- Plain: heads, byte by byte. (Stage 19.) -/
namespace Go.Proofs.YtacbfbhhhofifaaDoor.Hd
set_option linter.unusedVariables false

/-- A byte of a token. -/
def sg : List Int := [33, 35, 36, 37, 38, 39, 42, 43, 45, 46, 94, 95, 96, 124, 126]
def tc (c : Int) : Bool := decide (97 ≤ c ∧ c ≤ 122) || decide (65 ≤ c ∧ c ≤ 90) || decide (48 ≤ c ∧ c ≤ 57) || sg.contains c
def tok (l : List Int) : Bool := !l.isEmpty && l.all tc
def sml (l : List Int) : List Int := l.map fun c => if 65 ≤ c ∧ c ≤ 90 then c + 32 else c
def bl (c : Int) : Bool := decide (c = 32 ∨ c = 9)
/-- Without blanks at its ends. -/
def trm (l : List Int) : List Int := ((l.dropWhile bl).reverse.dropWhile bl).reverse
def nb (c d : Int) : Bool := decide (d ≠ c)
def vis (c : Int) : Bool := decide (33 ≤ c ∧ c ≤ 126)
def dig (c : Int) : Bool := decide (48 ≤ c ∧ c ≤ 57)
/-- A head, as it is read so far. -/
structure H where
  m : List Int
  t : List Int
  v : Int
  f : List (List Int × List Int)
def h0 : H := ⟨[], [], 0, []⟩
/-- A first line. -/
def frst (l : List Int) : H × Nat :=
  let a := l.takeWhile (nb 32)
  let r := (l.dropWhile (nb 32)).drop 1
  let b := r.takeWhile (nb 32)
  let q := r.dropWhile (nb 32)
  let v := q.drop 1
  if l.dropWhile (nb 32) = [] ∨ q = [] ∨ b = [] ∨ tok a = false ∨ b.all vis = false then (h0, 190)
  else if v.length = 8 ∧ v.take 5 = [72, 84, 84, 80, 47] ∧ v.getD 6 0 = 46 ∧ dig (v.getD 5 0) = true ∧ dig (v.getD 7 0) = true then
    if v.getD 5 0 = 49 ∧ v.getD 7 0 ≤ 49 then (⟨a, b, v.getD 7 0 - 48, []⟩, 0) else (h0, 192)
  else (h0, 190)
def vc (c : Int) : Bool := decide (¬ (c < 32 ∧ c ≠ 9 ∨ c = 127))
/-- A field's line. -/
def fld (l : List Int) : Option (List Int × List Int) :=
  let a := l.takeWhile (nb 58)
  let r := l.dropWhile (nb 58)
  if r = [] ∨ tok a = false ∨ (r.drop 1).all vc = false then none else some (sml a, trm (r.drop 1))
/-- A reader. -/
structure St where
  cur : List Int
  blk : Bool
  is : Bool
  h : H
  n : Nat
  d : Bool
  e : Nat
def s0 : St := ⟨[], false, false, h0, 0, false, 0⟩
/-- Does a line, with its end, end as it must? -/
def ends (l : List Int) : Bool := decide (2 ≤ l.length ∧ l.drop (l.length - 2) = [13, 10]) && (l.take (l.length - 2)).all (nb 13)
/-- The end of a line without its end. -/
def fin (s : St) (l : List Int) : St :=
  if s.is = false ∧ l = [] ∧ s.blk = false then { s with cur := [], blk := true }
  else if s.is = false then
    if 4096 < l.length then { s with e := 194 }
    else if (frst l).2 ≠ 0 then { s with e := (frst l).2 } else { s with cur := [], is := true, h := (frst l).1 }
  else if l = [] then { s with d := true }
  else if 4096 < l.length ∨ 64 ≤ s.h.f.length then { s with e := 195 }
  else match fld l with
    | none => { s with e := 193 }
    | some x => { s with cur := [], h := { s.h with f := s.h.f ++ [x] } }
/-- One byte more. -/
def step (s : St) (c : Int) : St :=
  if 16384 < s.n + 1 then { s with n := s.n + 1, e := 195 }
  else if c ≠ 10 then
    if 4097 < s.cur.length + 1 then { s with n := s.n + 1, e := if s.is = true then 195 else 194 } else { s with cur := s.cur ++ [c], n := s.n + 1 }
  else if ends (s.cur ++ [c]) = false then { s with n := s.n + 1, e := 191 }
  else fin { s with n := s.n + 1 } ((s.cur ++ [c]).take (s.cur.length + 1 - 2))
/-- Bytes, up to the head's end, or its error. -/
def go : St → List Int → St
  | s, [] => s
  | s, c :: l => if s.d = true ∨ s.e ≠ 0 then s else go (step s c) l
theorem go_over {s : St} (h : s.d = true ∨ s.e ≠ 0) (l : List Int) : go s l = s := by
  cases l with
  | nil => rfl
  | cons c l => rw [go, if_pos h]
/-- In pieces it is the same. -/
theorem go_append : ∀ (l m : List Int) (s : St), go s (l ++ m) = go (go s l) m
  | [], m, s => rfl
  | c :: l, m, s => by
    rw [List.cons_append, go, go]
    by_cases h : s.d = true ∨ s.e ≠ 0
    · rw [if_pos h, if_pos h, go_over h]
    · rw [if_neg h, if_neg h, go_append l m]
/-- The bytes of a line ahead of its end. -/
theorem go_line : ∀ (l : List Int) (s : St), s.d = false → s.e = 0 → (∀ c ∈ l, c ≠ 10) → s.cur.length + l.length ≤ 4097 → s.n + l.length ≤ 16384 → go s l = { s with cur := s.cur ++ l, n := s.n + l.length }
  | [], s, _, _, _, _, _ => by rw [go, List.append_nil]; rfl
  | c :: l, s, hd, he, hc, hl, hn => by
    rw [List.length_cons] at hl hn
    have e : step s c = { s with cur := s.cur ++ [c], n := s.n + 1 } := by
      unfold step
      rw [if_neg (by omega), if_pos (hc c (List.mem_cons_self ..)), if_neg (by omega)]
    rw [go, if_neg (by rw [hd, he]; simp), e, go_line l { s with cur := s.cur ++ [c], n := s.n + 1 } hd he (fun x hx => hc x (List.mem_cons_of_mem _ hx)) (by simp only [List.length_append, List.length_cons, List.length_nil]; omega) (by simp only; omega)]
    simp only [List.append_assoc, List.cons_append, List.nil_append, List.length_cons]
    congr 1
    omega
theorem ends_line {l : List Int} (h : ∀ c ∈ l, c ≠ 13) : ends (l ++ [13, 10]) = true := by
  unfold ends
  have e : (l ++ [13, 10]).length - 2 = l.length := by simp
  rw [e, List.drop_left' rfl, List.take_left' rfl, Bool.and_eq_true, decide_eq_true_iff, List.all_eq_true]
  exact ⟨⟨by simp, rfl⟩, fun c hc => by unfold nb; exact decide_eq_true (h c hc)⟩
/-- A whole line. -/
theorem go_ends (l : List Int) (s : St) (hc : s.cur = []) (hd : s.d = false) (he : s.e = 0) (h : ∀ c ∈ l, c ≠ 10 ∧ c ≠ 13) (hl : l.length ≤ 4096) (hn : s.n + l.length + 2 ≤ 16384) :
    go s (l ++ [13, 10]) = fin { s with cur := l ++ [13], n := s.n + l.length + 2 } l := by
  have e1 : go s (l ++ [13]) = { s with cur := l ++ [13], n := s.n + (l.length + 1) } := by
    have := go_line (l ++ [13]) s hd he (fun c hc => by
      rcases List.mem_append.1 hc with hc | hc
      · exact (h c hc).1
      · rw [List.mem_singleton.1 hc]; decide) (by rw [hc]; simp; omega) (by simp; omega)
    rw [this, hc, List.nil_append, List.length_append]; rfl
  rw [show l ++ [13, 10] = (l ++ [13]) ++ [10] by simp, go_append, e1, go, if_neg (by simp [hd, he]), go]
  unfold step
  have e2 : (l ++ [13]).length + 1 - 2 = l.length := by simp
  rw [if_neg (by simp only; omega), if_neg (by decide)]
  simp only [List.append_assoc, List.cons_append, List.nil_append]
  rw [ends_line (fun c hc => (h c hc).2), if_neg (by decide), e2, List.take_left' rfl]
  rfl
/-- The values of a name. -/
def got (f : List (List Int × List Int)) (n : List Int) : List (List Int) := (f.filter fun p => decide (p.1 = n)).map (·.2)
end Go.Proofs.YtacbfbhhhofifaaDoor.Hd
