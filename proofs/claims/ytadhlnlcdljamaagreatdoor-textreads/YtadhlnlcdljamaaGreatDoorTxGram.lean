/-
  What a text of tokens is read as: the grammar, as functions.
-/
import Derived.Test.YtadhlnlcdljamaaGreatDoorTxTok2
namespace Go.Proofs.YtadhlnlcdljamaaGreatDoor.V
set_option maxRecDepth 20000
open Go.RowKit

/-- Tokens, and where their text ends. -/
structure Tks where
  ts : List (ByteArray × Nat)
  n : Nat
def Tks.tx (X : Tks) (i : Nat) : ByteArray := (X.ts[i]?.getD (ByteArray.empty, 0)).1
def Tks.ps (X : Tks) (i : Nat) : Nat := if i < X.ts.length then (X.ts[i]?.getD (ByteArray.empty, 0)).2 else X.n
theorem Tks.tx_end {X : Tks} {i : Nat} (h : X.ts.length ≤ i) : X.tx i = ByteArray.empty := by
  unfold Tks.tx
  rw [List.getElem?_eq_none h]
  rfl
theorem Tks.lt_of {X : Tks} {i : Nat} {t : List UInt8} (h : ((X.tx i).toList == t) = true) (ht : t ≠ []) : i < X.ts.length := by
  by_cases c : i < X.ts.length
  · exact c
  · rw [Tks.tx_end (by omega)] at h
    have h1 : ByteArray.empty.toList = t := by simpa using h
    exact absurd (by rw [← h1]; simp) ht

/-- An error and its place, or what was read and how far. -/
inductive Res (α : Type) where
  | bad (T : Int) (k : Nat) : Res α
  | ok (a : α) (i : Nat) : Res α
def Res.bind {α β : Type} (r : Res α) (f : α → Nat → Res β) : Res β := match r with
  | .bad T k => .bad T k
  | .ok a i => f a i
@[simp] theorem Res.bind_bad {α β : Type} (T : Int) (k : Nat) (f : α → Nat → Res β) : (Res.bad T k : Res α).bind f = .bad T k := rfl
@[simp] theorem Res.bind_ok {α β : Type} (a : α) (i : Nat) (f : α → Nat → Res β) : (Res.ok a i).bind f = f a i := rfl

inductive Tr where
  | mk (kind : Int) (name : ByteArray) (num : Int) (shaped : Bool) (shape : List (ByteArray × Int)) (lists : List (List Int)) (kids : List Tr) : Tr
def Tr.one (n : Int) : Tr := .mk 1 ByteArray.empty n false [] [] []
def Tr.nam (x : ByteArray) : Tr := .mk 2 x 0 false [] [] []
def Tr.two (s : ByteArray) (a b : Tr) : Tr := .mk 4 s 0 false [] [] [a, b]
structure FnT where
  name : ByteArray
  given : List (ByteArray × List (ByteArray × Int))
  body : Tr

abbrev tFn : List UInt8 := [102, 110]
abbrev tLet : List UInt8 := [108, 101, 116]
abbrev tIn : List UInt8 := [105, 110]
abbrev tRepeat : List UInt8 := [114, 101, 112, 101, 97, 116]
abbrev tWith : List UInt8 := [119, 105, 116, 104]
abbrev tC (c : UInt8) : List UInt8 := [c]

def isNumB (s : ByteArray) : Bool := !(s.toList == []) && digitI ((xsOf s)[0]?.getD 0)
def isOwnB (s : ByteArray) : Bool := s.toList == tFn || (s.toList == tLet || (s.toList == tIn || (s.toList == tRepeat || s.toList == tWith)))
def isNameB (s : ByteArray) : Bool := !(s.toList == []) && (!digitI ((xsOf s)[0]?.getD 0) && (!isOwnB s && (xsOf s).all wordI))
def isSumB (s : ByteArray) : Bool := s.toList == tC 43 || s.toList == tC 45
def isMulB (s : ByteArray) : Bool := s.toList == tC 42

variable (X : Tks)
def mustS (t : List UInt8) (i : Nat) : Res Unit := if ((X.tx i).toList == t) = true then .ok () (i + 1) else .bad 7 (X.ps i)
def nameS (i : Nat) : Res ByteArray := if isNameB (X.tx i) = true then .ok (X.tx i) (i + 1) else .bad 7 (X.ps i)
def numS (i : Nat) : Res Int := if isNumB (X.tx i) = true then .ok (numVal (xsOf (X.tx i))) (i + 1) else .bad 7 (X.ps i)
def shapeL : Nat → Nat → List (ByteArray × Int) → Res (List (ByteArray × Int))
  | 0, _, _ => .bad 7 0
  | f + 1, i, ds => if ((X.tx i).toList == tC 93) = true then .ok ds (i + 1)
    else if isNumB (X.tx i) = true then shapeL f (i + 1) (ds ++ [(ByteArray.empty, numVal (xsOf (X.tx i)))])
    else if isNameB (X.tx i) = true then shapeL f (i + 1) (ds ++ [(X.tx i, 0)])
    else .bad 7 (X.ps i)
def shapeS (i : Nat) : Res (List (ByteArray × Int)) := (mustS X (tC 91) i).bind fun _ i => shapeL X (X.ts.length + 1) i []
def listL : Nat → Nat → List Int → Res (List Int)
  | 0, _, _ => .bad 7 0
  | f + 1, i, ds => if ((X.tx i).toList == tC 125) = true then .ok ds (i + 1)
    else if isNumB (X.tx i) = true then listL f (i + 1) (ds ++ [numVal (xsOf (X.tx i))])
    else .bad 7 (X.ps i)
def listS (i : Nat) : Res (List Int) := (mustS X (tC 123) i).bind fun _ i => listL X (X.ts.length + 1) i []
def listsL : Nat → Nat → List (List Int) → Res (List (List Int))
  | 0, _, _ => .bad 7 0
  | f + 1, i, ls => if ((X.tx i).toList == tC 123) = true then (listS X i).bind fun l j => listsL f j (ls ++ [l]) else .ok ls i
def argsL {α : Type} (E : Nat → Res α) : Nat → Nat → List α → Res (List α)
  | 0, _, _ => .bad 7 0
  | f + 1, i, us => if ((X.tx i).toList == tC 44) = true then (E (i + 1)).bind fun a j => argsL E f j (us ++ [a])
    else if ((X.tx i).toList == tC 41) = true then .ok us (i + 1) else .bad 7 (X.ps i)
def brackS {α : Type} (E : Nat → Res α) (i : Nat) : Res (List α) := (mustS X (tC 40) i).bind fun _ i =>
  if ((X.tx i).toList == tC 41) = true then .ok [] (i + 1) else (E i).bind fun a j => argsL X E (X.ts.length + 1) j [a]
def boundS (E : Nat → Res Tr) (kind num : Int) (word : List UInt8) (i : Nat) : Res Tr :=
  (nameS X i).bind fun nm i => (mustS X (tC 61) i).bind fun _ i => (E i).bind fun a i => (mustS X word i).bind fun _ i => (E i).bind fun b i => .ok (.mk kind nm num false [] [] [a, b]) i
def chainL (P : Nat → Res Tr) (sg : ByteArray → Bool) : Nat → Nat → Tr → Res Tr
  | 0, i, t => if sg (X.tx i) = true then .bad 5 (X.ps i) else .ok t i
  | f + 1, i, t => if sg (X.tx i) = true then (P (i + 1)).bind fun b j => chainL P sg f j (.two (X.tx i) t b) else .ok t i
def chainS (P : Nat → Res Tr) (sg : ByteArray → Bool) (i : Nat) : Res Tr := (P i).bind fun t j => chainL X P sg 64 j t
def shapedS (i : Nat) : Res (Bool × List (ByteArray × Int)) := if ((X.tx i).toList == tC 91) = true then (shapeS X i).bind fun ds j => .ok (true, ds) j else .ok (false, []) i
def callS (E : Nat → Res Tr) (nm : ByteArray) (i : Nat) : Res Tr :=
  (shapedS X i).bind fun sh i => (listsL X (X.ts.length + 1) i []).bind fun ls i => (brackS X E i).bind fun ks i => .ok (.mk 3 nm 0 sh.1 sh.2 ls ks) i
def opensB (s : ByteArray) : Bool := s.toList == tC 91 || (s.toList == tC 123 || s.toList == tC 40)
def factorS (E : Nat → Res Tr) (i : Nat) : Res Tr :=
  if ((X.tx i).toList == tC 40) = true then (E (i + 1)).bind fun t j => (mustS X (tC 41) j).bind fun _ k => .ok t k
  else if isNumB (X.tx i) = true then .ok (.one (numVal (xsOf (X.tx i)))) (i + 1)
  else (nameS X i).bind fun nm j => if opensB (X.tx j) = true then callS X E nm j else .ok (.nam nm) j
def exprS : Nat → Nat → Res Tr
  | 0, i => .bad 5 (X.ps i)
  | d + 1, i => if ((X.tx i).toList == tLet) = true then boundS X (exprS d) 5 0 tIn (i + 1)
    else if ((X.tx i).toList == tRepeat) = true then (numS X (i + 1)).bind fun n j => boundS X (exprS d) 6 n tWith j
    else chainS X (chainS X (factorS X (exprS d)) isMulB) isSumB i
def givenS (i : Nat) : Res (ByteArray × List (ByteArray × Int)) := (nameS X i).bind fun nm i => (mustS X (tC 58) i).bind fun _ i => (shapeS X i).bind fun ds i => .ok (nm, ds) i
def funcS (i : Nat) : Res FnT := (mustS X tFn i).bind fun _ i => (nameS X i).bind fun nm i => (brackS X (givenS X) i).bind fun gs i =>
  (mustS X (tC 61) i).bind fun _ i => (exprS X 64 i).bind fun b i => (mustS X (tC 59) i).bind fun _ i => .ok ⟨nm, gs, b⟩ i
def progL : Nat → Nat → List FnT → Res (List FnT)
  | 0, _, _ => .bad 7 0
  | f + 1, i, fs => if i < X.ts.length then (funcS X i).bind fun fn j => progL f j (fs ++ [fn]) else .ok fs i
def progS : Res (List FnT) := progL X (X.ts.length + 1) 0 []
end Go.Proofs.YtadhlnlcdljamaaGreatDoor.V
