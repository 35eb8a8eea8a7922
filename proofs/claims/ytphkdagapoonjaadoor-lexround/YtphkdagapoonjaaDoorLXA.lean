/- Plain: how lines, words and texts in quotes are read, and written. (Stage 15.) -/
import Derived.Test.YtphkdagapoonjaaDoorUT
namespace Go.Proofs.YtphkdagapoonjaaDoor.Lx
open Go.Proofs.YtphkdagapoonjaaDoor.U (nx enc encs scal val Bytes)
set_option linter.unusedVariables false

/-- A token: its kind, what it says, its line, its place. -/
structure Tk where
  k : Nat
  x : List Int
  n : Nat
  a : Nat
/-- What ends a word. -/
def en (c : Int) : Bool := decide (c = 32 ∨ c = 9 ∨ c = 44 ∨ c = 33 ∨ c = 34 ∨ c = 35)
def dg (c : Int) : Int := if 48 ≤ c ∧ c ≤ 57 then c - 48 else if 97 ≤ c ∧ c ≤ 102 then c - 87 else if 65 ≤ c ∧ c ≤ 70 then c - 55 else -1
def isd (c : Int) : Bool := decide (0 ≤ dg c)
def hv (l : List Int) : Int := l.foldl (fun n c => 16 * n + dg c) 0
/-- The digits behind a backslash, a u and a bracket. -/
def ds (l : List Int) : List Int := ((l.drop 3).take 6).takeWhile isd
/-- A backslash and what stands behind it: what they say, and how many bytes they have; 0: they do not stand as they must. -/
def es (l : List Int) : List Int × Nat :=
  if l.getD 1 0 = 34 ∨ l.getD 1 0 = 92 then ([l.getD 1 0], 2)
  else if l.getD 1 0 = 117 ∧ l.getD 2 0 = 123 ∧ ds l ≠ [] ∧ l.getD (3 + (ds l).length) 0 = 125 ∧ scal (hv (ds l)) = true then (enc (hv (ds l)), (ds l).length + 4)
  else ([], 0)
/-- A text in quotes, from the byte i on: what it says, how many bytes it has; 0, and where its fault is. -/
def tx : Nat → List Int → List Int → Nat → List Int × Nat × Nat
  | 0, _, _, _ => ([], 0, 0)
  | _ + 1, _, [], _ => ([], 0, 0)
  | f + 1, t, c :: r, i =>
    if c = 34 then (t, i + 1, 0)
    else if c ≠ 92 then tx f (t ++ [c]) r (i + 1)
    else if (es (c :: r)).2 = 0 then ([], 0, i)
    else tx f (t ++ (es (c :: r)).1) (r.drop ((es (c :: r)).2 - 1)) (i + (es (c :: r)).2)
/-- The first byte that is no part of valid UTF-8. -/
def bdF : Nat → List Int → Nat → Option Nat
  | 0, _, _ => none
  | f + 1, l, k => if l = [] then none else if (nx l).2.2 = true then bdF f (l.drop (nx l).2.1) (k + (nx l).2.1) else some k
def bd (l : List Int) : Option Nat := bdF l.length l 0
def pb (l : List Int) : Option Nat := l.findIdx? (fun c => decide (c < 32 ∧ c ≠ 9 ∨ c = 127))
def nen (c : Int) : Bool := !en c
/-- The tokens of a line, from the byte i on. -/
def lnF : Nat → List Tk → List Int → Nat → Nat → List Tk × Option Nat
  | 0, o, _, _, _ => (o, none)
  | _ + 1, o, [], _, _ => (o, none)
  | f + 1, o, c :: r, i, n =>
    if c = 35 then (o, none)
    else if c = 32 ∨ c = 9 then lnF f o r (i + 1) n
    else if c = 44 then lnF f (o ++ [⟨3, [], n, i⟩]) r (i + 1) n
    else if c = 33 then lnF f (o ++ [⟨4, [], n, i⟩]) r (i + 1) n
    else if c = 34 then
      if (tx (r.length + 1) [] r 1).2.1 = 0 then ([], some (i + (tx (r.length + 1) [] r 1).2.2))
      else lnF f (o ++ [⟨2, (tx (r.length + 1) [] r 1).1, n, i⟩]) (r.drop ((tx (r.length + 1) [] r 1).2.1 - 1)) (i + (tx (r.length + 1) [] r 1).2.1) n
    else lnF f (o ++ [⟨1, (c :: r).takeWhile nen, n, i⟩]) ((c :: r).dropWhile nen) (i + ((c :: r).takeWhile nen).length) n
/-- A line: its tokens, and its fault. -/
def line (l : List Int) (n : Nat) : List Tk × Nat × Nat × Nat :=
  match bd l with
  | some k => ([], 152, n, k)
  | none => match pb l with
    | some k => ([], 150, n, k)
    | none => match lnF l.length [] l 0 n with
      | (_, some k) => ([], 151, n, k)
      | (o, none) => (if o.length = 0 then [] else o ++ [⟨5, [], n, l.length⟩], 0, 0, 0)
def no10 (c : Int) : Bool := decide (c ≠ 10)
/-- A 13 just ahead of a 10 counts for nothing. -/
def strip (l : List Int) : List Int := if l.getLast? = some 13 then l.dropLast else l
/-- The first line of a text. -/
def fl (s : List Int) : List Int := if s.dropWhile no10 = [] then s else strip (s.takeWhile no10)
def lexF : Nat → List Tk → List Int → Nat → List Tk × Nat × Nat × Nat
  | 0, o, _, _ => (o, 0, 0, 0)
  | f + 1, o, s, n =>
    if s = [] then (o, 0, 0, 0)
    else if (line (fl s) n).2.1 ≠ 0 then ([], (line (fl s) n).2)
    else lexF f (o ++ (line (fl s) n).1) ((s.dropWhile no10).drop 1) (n + 1)
/-- What Lex answers. -/
def lex (s : List Int) : List Tk × Nat × Nat × Nat := if 65536 < s.length then ([], 4, 0, 0) else lexF s.length [] s 1
/-- How a byte stands in quotes. -/
def hd (n : Int) : Int := if n < 10 then n + 48 else n + 87
def qb (c : Int) : List Int := if c = 34 ∨ c = 92 then [92, c] else if c < 16 then [92, 117, 123, hd c, 125] else if c < 32 ∨ c = 127 then [92, 117, 123, hd (c / 16), hd (c % 16), 125] else [c]
def qt (l : List Int) : List Int := 34 :: (l.flatMap qb ++ [34])
/-- What Quote answers. -/
def quote (l : List Int) : List Int × Nat := if val l = false then ([], 152) else if 65536 < l.length then ([], 4) else (qt l, 0)
/-- Is it a word? -/
def wd (l : List Int) : Prop := l ≠ [] ∧ val l = true ∧ ∀ c ∈ l, en c = false ∧ 32 < c ∧ c ≠ 127
/-- A token, as it is written. -/
def tw (t : Tk) : List Int := if t.k = 1 then t.x else if t.k = 2 then qt t.x else if t.k = 3 then [44] else if t.k = 4 then [33] else [10]
def sep (last k : Nat) : List Int := if last ≠ 5 ∧ last ≠ 4 ∧ k ≠ 3 ∧ k ≠ 5 then [32] else []
/-- The tokens' text, behind a token of kind 'last'. -/
def wr : Nat → List Tk → List Int
  | _, [] => []
  | last, t :: r => sep last t.k ++ tw t ++ wr t.k r
/-- May these be written, behind a token of kind 'last'? -/
def ok : Nat → List Tk → Prop
  | last, [] => last = 5
  | last, t :: r => (t.k = 1 ∧ wd t.x ∨ t.k = 2 ∧ val t.x = true ∨ (t.k = 3 ∨ t.k = 4 ∨ t.k = 5 ∧ last ≠ 5) ∧ t.x = []) ∧ ok t.k r
end Go.Proofs.YtphkdagapoonjaaDoor.Lx
