/-
  A machine of two engines: instructions, what they touch, what is wrong with them.
-/
import Derived.Test.YtjmeghicfiiclaaPlain
namespace Go.Proofs.Ytjmeghicfiiclaa.V
set_option linter.unusedVariables false

/-- An instruction. -/
structure In where
  d : Int
  a : Int
  b : Int
  c : Int
  n : Int
  v : Int
def inD : In := ⟨0, 0, 0, 0, 0, 0⟩
/-- A stretch of words. -/
structure Str where
  f : Int
  w : Int
def zS : Str := ⟨0, 0⟩
/-- What an instruction reads and writes. -/
structure Tch where
  r0 : Str
  r1 : Str
  r2 : Str
  wr : Str
def inB (s : Str) (pad : Int) : Bool := decide (s.w = 0) || (decide (0 ≤ s.f) && decide (s.f + s.w ≤ pad))
def meetV (s t : Str) : Bool := decide (0 < s.w) && decide (0 < t.w) && decide (s.f < t.f + t.w) && decide (t.f < s.f + s.w)
def tchV (x : In) : Tch :=
  if x.d = 3 ∨ x.d = 4 then ⟨zS, zS, zS, zS⟩
  else if x.d = 1 ∨ x.d = 5 then ⟨zS, zS, zS, ⟨x.a, x.n⟩⟩
  else if x.d = 2 then ⟨⟨x.a, x.n⟩, zS, zS, zS⟩
  else if x.d = 11 ∨ x.d = 12 then ⟨⟨x.a, x.n⟩, ⟨x.b, x.n⟩, ⟨x.c, x.n⟩, ⟨x.a, x.n⟩⟩
  else if x.d = 13 then ⟨⟨x.a, 1⟩, ⟨x.b, x.n⟩, ⟨x.c, x.n⟩, ⟨x.a, 1⟩⟩
  else if x.d = 14 then ⟨⟨x.a, x.n⟩, ⟨x.b, x.n⟩, zS, ⟨x.a, x.n⟩⟩
  else ⟨⟨x.b, x.n⟩, ⟨x.c, x.n⟩, zS, ⟨x.a, x.n⟩⟩
/-- The document's: it names the same stretches. -/
def rTchV (x : In) : Tch :=
  if x.d = 1 ∨ x.d = 5 then ⟨zS, zS, zS, ⟨x.a, x.n⟩⟩
  else if x.d = 2 then ⟨⟨x.a, x.n⟩, zS, zS, zS⟩
  else if 6 ≤ x.d ∧ x.d ≤ 10 then ⟨zS, ⟨x.b, x.n⟩, ⟨x.c, x.n⟩, ⟨x.a, x.n⟩⟩
  else if x.d = 11 ∨ x.d = 12 then ⟨⟨x.a, x.n⟩, ⟨x.b, x.n⟩, ⟨x.c, x.n⟩, ⟨x.a, x.n⟩⟩
  else if x.d = 13 then ⟨⟨x.a, 1⟩, ⟨x.b, x.n⟩, ⟨x.c, x.n⟩, ⟨x.a, 1⟩⟩
  else if x.d = 14 then ⟨⟨x.a, x.n⟩, ⟨x.b, x.n⟩, zS, ⟨x.a, x.n⟩⟩
  else ⟨zS, zS, zS, zS⟩
def tchIn (t : Tch) (pad : Int) : Bool := inB t.r0 pad && inB t.r1 pad && inB t.r2 pad && inB t.wr pad
def spoilV (t u : Tch) : Bool := meetV t.wr u.r0 || meetV t.wr u.r1 || meetV t.wr u.r2 || meetV t.wr u.wr
/-- Has an engine (mover: true) such an instruction? -/
def hasV (e : Bool) (d : Int) : Bool := decide (d = 3) || decide (d = 4) || (if d = 1 ∨ d = 2 then e else !e && decide (5 ≤ d) && decide (d ≤ 14))
def farV (n : Int) : Bool := decide (n < -1048576) || decide (1048576 < n)
/-- Are all words of memory there? -/
def findV (mem : Int) (x : In) : Bool := if (x.d ≠ 1 ∧ x.d ≠ 2) ∨ x.n = 0 then true else decide (0 ≤ x.b) && decide (0 ≤ x.b + (x.n - 1) * x.c) && decide (x.b < mem) && decide (x.b + (x.n - 1) * x.c < mem)
/-- What is wrong with an instruction. -/
def insE (pad mem : Int) (e : Bool) (x : In) : Int :=
  if hasV e x.d = false then 1
  else if x.d = 3 ∨ x.d = 4 then (if x.a < 0 ∨ 16 ≤ x.a then 4 else 0)
  else if x.n < 0 ∨ 4096 < x.n ∨ farV x.a = true ∨ farV x.b = true ∨ farV x.c = true then 4
  else if tchIn (tchV x) pad = false ∨ findV mem x = false then 4
  else 0
def inssE (pad mem : Int) (e : Bool) : List In → Int
  | [] => 0
  | x :: l => if insE pad mem e x ≠ 0 then insE pad mem e x else inssE pad mem e l
/-- Who uses a semaphore? -/
def usesV (l : List In) (d s : Int) : Bool := l.any fun x => decide (x.d = d) && decide (x.a = s)
def semV (mv mk : List In) (s : Int) : Bool := (usesV mv 3 s || usesV mk 4 s) && (usesV mk 3 s || usesV mv 4 s)
def clashV (mv mk : List In) : Bool := (List.range 16).any fun s => semV mv mk (s : Int)
def codeE (pad mem : Int) (mv mk : List In) : Int :=
  if pad < 0 ∨ 4096 < pad ∨ mem < 0 ∨ 1048576 < mem then 4
  else if 262144 < mv.length ∨ 262144 < mk.length then 2
  else if inssE pad mem true mv ≠ 0 then inssE pad mem true mv
  else if inssE pad mem false mk ≠ 0 then inssE pad mem false mk
  else if clashV mv mk = true then 11
  else 0
end Go.Proofs.Ytjmeghicfiiclaa.V
