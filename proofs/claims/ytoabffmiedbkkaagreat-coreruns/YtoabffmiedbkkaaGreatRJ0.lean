/-
  Plain mathematics of chapter 1: no program here. (wip/tpl: a template; gen.py fills it for a seat.) A machine of two engines: instructions, what they touch, what is wrong with them. Races: what is ahead of an instruction; the first pair in each other's way. A machine of two engines at work: what an instruction does; without a race there is one outcome. A machine of two engines: the run as a function; right code. A machine of two engines: all words are numbers of 64 bits.
-/
import Derived.WalkKit
namespace Go.Proofs.YtoabffmiedbkkaaGreat.V
set_option maxRecDepth 20000

def prod : List Int → Int
  | [] => 1
  | d :: r => d * prod r
def badDim (d : Int) : Bool := decide (d < 0) || decide (4096 < d)
/-- Size: how many entries; what it tells. -/
def sizeN (ds : List Int) : Int :=
  if 6 < ds.length then 0 else if ds.any badDim = true then 0 else if (0 : Int) ∈ ds then 0 else if 65536 < prod ds then 0 else prod ds
def sizeE (ds : List Int) : Int :=
  if 6 < ds.length then 3 else if ds.any badDim = true then 4 else if (0 : Int) ∈ ds then 0 else if 65536 < prod ds then 5 else 0

theorem prod_append (a b : List Int) : prod (a ++ b) = prod a * prod b := by
  induction a with
  | nil => simp [prod]
  | cons x a ih => simp [prod, ih, Int.mul_assoc]
theorem take_succ_getD (xs : List Int) (k : Nat) (h : k < xs.length) : xs.take (k + 1) = xs.take k ++ [xs[k]?.getD 0] := by
  rw [List.take_succ_eq_append_getElem h]; simp [h]
theorem prod_take_succ (xs : List Int) (k : Nat) (h : k < xs.length) : prod (xs.take (k + 1)) = prod (xs.take k) * xs[k]?.getD 0 := by
  rw [take_succ_getD xs k h, prod_append]; simp [prod]
theorem prod_pos (xs : List Int) (h : ∀ x ∈ xs, 1 ≤ x) : 1 ≤ prod xs := by
  induction xs with
  | nil => simp [prod]
  | cons x r ih =>
    have h1 := h x (by simp)
    have h2 := ih (fun y hy => h y (by simp [hy]))
    have : 1 * 1 ≤ x * prod r := Int.mul_le_mul h1 h2 (by omega) (by omega)
    simpa [prod] using this
theorem prod_take_le (xs : List Int) (h : ∀ x ∈ xs, 1 ≤ x) (k : Nat) : prod (xs.take k) ≤ prod xs := by
  have e : prod xs = prod (xs.take k) * prod (xs.drop k) := by rw [← prod_append, List.take_append_drop]
  have h1 := prod_pos (xs.take k) (fun y hy => h y (List.mem_of_mem_take hy))
  have h2 := prod_pos (xs.drop k) (fun y hy => h y (List.mem_of_mem_drop hy))
  rw [e]
  have := Int.mul_le_mul_of_nonneg_left h2 (show 0 ≤ prod (xs.take k) by omega)
  simpa using this
theorem mem_getD (xs : List Int) (k : Nat) (h : k < xs.length) : xs[k]?.getD 0 ∈ xs := by simp [h]
theorem good_dims {ds : List Int} (h1 : ds.any badDim = false) (h2 : (0 : Int) ∉ ds) : ∀ x ∈ ds, 1 ≤ x ∧ x ≤ 4096 := by
  intro x hx
  have h : badDim x = false := by
    simp only [List.any_eq_false] at h1
    simpa using h1 x hx
  simp [badDim] at h
  have : x ≠ 0 := fun e => h2 (e ▸ hx)
  omega
end Go.Proofs.YtoabffmiedbkkaaGreat.V
namespace Go.Proofs.YtoabffmiedbkkaaGreat.V
set_option maxRecDepth 20000
set_option linter.unusedVariables false

/-- An instruction. -/
structure In where
  d : Int
  a : Int
  b : Int
  c : Int
  n : Int
  v : Int
def inD : In := ⟨0, 0, 0, 0, 0, 0⟩
/-- A stretch of words. -/
structure Str where
  f : Int
  w : Int
def zS : Str := ⟨0, 0⟩
/-- What an instruction reads and writes. -/
structure Tch where
  r0 : Str
  r1 : Str
  r2 : Str
  wr : Str
def inBk (s : Str) (pad : Int) : Bool := decide (s.w = 0) || (decide (0 ≤ s.f) && decide (s.f + s.w ≤ pad))
def meetV (s t : Str) : Bool := decide (0 < s.w) && decide (0 < t.w) && decide (s.f < t.f + t.w) && decide (t.f < s.f + s.w)
def tchV (x : In) : Tch :=
  if x.d = 3 ∨ x.d = 4 then ⟨zS, zS, zS, zS⟩
  else if x.d = 1 ∨ x.d = 5 then ⟨zS, zS, zS, ⟨x.a, x.n⟩⟩
  else if x.d = 2 then ⟨⟨x.a, x.n⟩, zS, zS, zS⟩
  else if x.d = 11 ∨ x.d = 12 then ⟨⟨x.a, x.n⟩, ⟨x.b, x.n⟩, ⟨x.c, x.n⟩, ⟨x.a, x.n⟩⟩
  else if x.d = 13 then ⟨⟨x.a, 1⟩, ⟨x.b, x.n⟩, ⟨x.c, x.n⟩, ⟨x.a, 1⟩⟩
  else if x.d = 14 then ⟨⟨x.a, x.n⟩, ⟨x.b, x.n⟩, zS, ⟨x.a, x.n⟩⟩
  else ⟨⟨x.b, x.n⟩, ⟨x.c, x.n⟩, zS, ⟨x.a, x.n⟩⟩
/-- The document's: it names the same stretches. -/
def rTchV (x : In) : Tch :=
  if x.d = 1 ∨ x.d = 5 then ⟨zS, zS, zS, ⟨x.a, x.n⟩⟩
  else if x.d = 2 then ⟨⟨x.a, x.n⟩, zS, zS, zS⟩
  else if 6 ≤ x.d ∧ x.d ≤ 10 then ⟨zS, ⟨x.b, x.n⟩, ⟨x.c, x.n⟩, ⟨x.a, x.n⟩⟩
  else if x.d = 11 ∨ x.d = 12 then ⟨⟨x.a, x.n⟩, ⟨x.b, x.n⟩, ⟨x.c, x.n⟩, ⟨x.a, x.n⟩⟩
  else if x.d = 13 then ⟨⟨x.a, 1⟩, ⟨x.b, x.n⟩, ⟨x.c, x.n⟩, ⟨x.a, 1⟩⟩
  else if x.d = 14 then ⟨⟨x.a, x.n⟩, ⟨x.b, x.n⟩, zS, ⟨x.a, x.n⟩⟩
  else ⟨zS, zS, zS, zS⟩
def tchIn (t : Tch) (pad : Int) : Bool := inBk t.r0 pad && inBk t.r1 pad && inBk t.r2 pad && inBk t.wr pad
def spoilV (t u : Tch) : Bool := meetV t.wr u.r0 || meetV t.wr u.r1 || meetV t.wr u.r2 || meetV t.wr u.wr
/-- Has an engine (mover: true) such an instruction? -/
def hasV (e : Bool) (d : Int) : Bool := decide (d = 3) || decide (d = 4) || (if d = 1 ∨ d = 2 then e else !e && decide (5 ≤ d) && decide (d ≤ 14))
def farV (n : Int) : Bool := decide (n < -1048576) || decide (1048576 < n)
/-- Are all words of memory there? -/
def findV (mem : Int) (x : In) : Bool := if (x.d ≠ 1 ∧ x.d ≠ 2) ∨ x.n = 0 then true else decide (0 ≤ x.b) && decide (0 ≤ x.b + (x.n - 1) * x.c) && decide (x.b < mem) && decide (x.b + (x.n - 1) * x.c < mem)
/-- What is wrong with an instruction. -/
def insE (pad mem : Int) (e : Bool) (x : In) : Int :=
  if hasV e x.d = false then 1
  else if x.d = 3 ∨ x.d = 4 then (if x.a < 0 ∨ 16 ≤ x.a then 4 else 0)
  else if x.n < 0 ∨ 4096 < x.n ∨ farV x.a = true ∨ farV x.b = true ∨ farV x.c = true then 4
  else if tchIn (tchV x) pad = false ∨ findV mem x = false then 4
  else 0
def inssE (pad mem : Int) (e : Bool) : List In → Int
  | [] => 0
  | x :: l => if insE pad mem e x ≠ 0 then insE pad mem e x else inssE pad mem e l
/-- Who uses a semaphore? -/
def usesV (l : List In) (d s : Int) : Bool := l.any fun x => decide (x.d = d) && decide (x.a = s)
def semV (mv mk : List In) (s : Int) : Bool := (usesV mv 3 s || usesV mk 4 s) && (usesV mk 3 s || usesV mv 4 s)
def clashV (mv mk : List In) : Bool := (List.range 16).any fun s => semV mv mk (s : Int)
def codeE (pad mem : Int) (mv mk : List In) : Int :=
  if pad < 0 ∨ 4096 < pad ∨ mem < 0 ∨ 1048576 < mem then 4
  else if 262144 < mv.length ∨ 262144 < mk.length then 2
  else if inssE pad mem true mv ≠ 0 then inssE pad mem true mv
  else if inssE pad mem false mk ≠ 0 then inssE pad mem false mk
  else if clashV mv mk = true then 11
  else 0
end Go.Proofs.YtoabffmiedbkkaaGreat.V
namespace Go.Proofs.YtoabffmiedbkkaaGreat.V
set_option maxRecDepth 20000
set_option linter.unusedVariables false

def getI (l : List In) (k : Nat) : In := l[k]?.getD inD
def postB (x : In) (s : Int) : Bool := decide (x.d = 3) && decide (x.a = s)
def waitB (x : In) (s : Int) : Bool := decide (x.d = 4) && decide (x.a = s)
/-- Of each post to a semaphore, among the first j: how many instructions end with it. -/
def postsTo (l : List In) (s : Int) : Nat → List Int
  | 0 => []
  | j + 1 => postsTo l s j ++ (if postB (getI l j) s = true then [(j : Int) + 1] else [])
def waitsTo (l : List In) (s : Int) : Nat → Nat
  | 0 => 0
  | j + 1 => waitsTo l s j + (if waitB (getI l j) s = true then 1 else 0)
/-- How many of the others a wait waits for. -/
def atV (own others : List In) (k : Nat) : Int := ((postsTo others (getI own k).a others.length)[waitsTo own (getI own k).a k]?).getD (others.length : Int)
/-- How many of the others are ahead, of the first k the last one. -/
def fenTo (own others : List In) : Nat → Int
  | 0 => 0
  | k + 1 => if (getI own k).d = 4 then max (fenTo own others k) (atV own others k) else fenTo own others k
theorem postsTo_bd (l : List In) (s : Int) : ∀ (j : Nat), ∀ x ∈ postsTo l s j, 1 ≤ x ∧ x ≤ (j : Int)
  | 0, x, h => by simp [postsTo] at h
  | j + 1, x, h => by
    simp only [postsTo, List.mem_append] at h
    rcases h with h | h
    · have := postsTo_bd l s j x h
      omega
    · split at h
      · simp at h
        omega
      · simp at h
theorem postsTo_len (l : List In) (s : Int) : ∀ (j : Nat), (postsTo l s j).length ≤ j
  | 0 => by simp [postsTo]
  | j + 1 => by
    have := postsTo_len l s j
    simp only [postsTo, List.length_append]
    split <;> simp <;> omega
/-- Is a word in a stretch? -/
def inS (s : Str) (w : Int) : Bool := decide (s.f ≤ w) && decide (w < s.f + s.w)
def clashI (x y : In) : Bool := spoilV (tchV x) (tchV y) || spoilV (tchV y) (tchV x)
/-- The pair is a race. -/
structure RaceAt (mv mk : List In) (i j : Nat) : Prop where
  hi : i < mv.length
  hj : j < mk.length
  ah : fenTo mv mk (i + 1) ≤ (j : Int)
  bh : fenTo mk mv (j + 1) ≤ (i : Int)
  cl : clashI (getI mv i) (getI mk j) = true
/-- What is told of races. -/
def RaceSp (mv mk : List In) (an : Bool) (i j : Nat) : Prop :=
  (an = true ∧ RaceAt mv mk i j ∧ (∀ i' j', i' < i → ¬ RaceAt mv mk i' j') ∧ ∀ j', j' < j → ¬ RaceAt mv mk i j') ∨ (an = false ∧ i = 0 ∧ j = 0 ∧ ∀ i' j', ¬ RaceAt mv mk i' j')
theorem RaceSp.one {mv mk : List In} {a a' : Bool} {i i' j j' : Nat} (h : RaceSp mv mk a i j) (h' : RaceSp mv mk a' i' j') : a = a' ∧ i = i' ∧ j = j' := by
  rcases h with ⟨rfl, h1, h2, h3⟩ | ⟨rfl, rfl, rfl, h4⟩
  · rcases h' with ⟨rfl, k1, k2, k3⟩ | ⟨rfl, rfl, rfl, k4⟩
    · have e : i = i' := by
        rcases Nat.lt_trichotomy i i' with h | h | h
        · exact absurd h1 (k2 i j h)
        · exact h
        · exact absurd k1 (h2 i' j' h)
      subst e
      refine ⟨rfl, rfl, ?_⟩
      rcases Nat.lt_trichotomy j j' with h | h | h
      · exact absurd h1 (k3 j h)
      · exact h
      · exact absurd k1 (h3 j' h)
    · exact absurd h1 (k4 i j)
  · rcases h' with ⟨rfl, k1, k2, k3⟩ | ⟨rfl, rfl, rfl, k4⟩
    · exact absurd k1 (h4 i' j')
    · exact ⟨rfl, rfl, rfl⟩
end Go.Proofs.YtoabffmiedbkkaaGreat.V
namespace Go.Proofs.YtoabffmiedbkkaaGreat.V
set_option maxRecDepth 20000
set_option linter.unusedVariables false
set_option linter.unusedSimpArgs false

/-- Word by word. -/
def wrp (x : Int) : Int := (x + 9223372036854775808) % 18446744073709551616 - 9223372036854775808
def twoI (d x y : Int) : Int :=
  if d = 6 then wrp (x + y) else if d = 7 then wrp (x - y) else if d = 8 then wrp (x * y) else if d = 9 then (if x < y then y else x) else (if x < y then 1 else 0)
def accI (p : Int → Int) (b c : Int) : Nat → Int → Int
  | 0, z => z
  | k + 1, z => wrp (accI p b c k z + wrp (p (b + k) * p (c + k)))
/-- What an instruction makes of a word of the pad that it writes. -/
def newW (x : In) (p m : Int → Int) (w : Int) : Int :=
  if x.d = 1 then m (x.b + (w - x.a) * x.c)
  else if x.d = 5 then x.v
  else if x.d = 11 then (if p w ≠ 0 then p (x.b + (w - x.a)) else p (x.c + (w - x.a)))
  else if x.d = 12 then wrp (p w + wrp (p (x.b + (w - x.a)) * p (x.c + (w - x.a))))
  else if x.d = 13 then accI p x.b x.c x.n.toNat (p w)
  else if x.d = 14 then wrp (p w + p (x.b + (w - x.a)))
  else twoI x.d (p (x.b + (w - x.a))) (p (x.c + (w - x.a)))
def doP (x : In) (p m : Int → Int) (w : Int) : Int := if inS (tchV x).wr w = true then newW x p m w else p w
def stoM (x : In) (p : Int → Int) : Nat → (Int → Int) → (Int → Int)
  | 0, m => m
  | k + 1, m => fun q => if q = x.b + k * x.c then p (x.a + k) else stoM x p k m q
def doMm (x : In) (p m : Int → Int) : Int → Int := if x.d = 2 then stoM x p x.n.toNat m else m
def dlS (x : In) (s : Int) : Int := if x.d = 3 ∧ x.a = s then 1 else if x.d = 4 ∧ x.a = s then -1 else 0
/-- The machine. -/
structure Mac where
  pad : Int → Int
  mem : Int → Int
  sem : Int → Int
  i : Nat
  j : Nat
def goI (l : List In) (k : Nat) (sem : Int → Int) : Bool := decide (k < l.length) && (decide ((getI l k).d ≠ 4) || decide (0 < sem (getI l k).a))
def stA (mv : List In) (s : Mac) : Mac := ⟨doP (getI mv s.i) s.pad s.mem, doMm (getI mv s.i) s.pad s.mem, fun q => s.sem q + dlS (getI mv s.i) q, s.i + 1, s.j⟩
def stB (mk : List In) (s : Mac) : Mac := ⟨doP (getI mk s.j) s.pad s.mem, doMm (getI mk s.j) s.pad s.mem, fun q => s.sem q + dlS (getI mk s.j) q, s.i, s.j + 1⟩
theorem wr_none {x : In} (h : x.d = 2 ∨ x.d = 3 ∨ x.d = 4) (w : Int) : inS (tchV x).wr w = false := by
  have key : inS zS w = false := by
    unfold inS zS
    simp only [Bool.and_eq_false_iff, decide_eq_false_iff_not]
    omega
  unfold tchV
  by_cases h3 : x.d = 3 ∨ x.d = 4
  · rw [if_pos h3]; exact key
  · rw [if_neg h3, if_neg (by omega), if_pos (by omega)]; exact key
theorem doP_off {x : In} {p m : Int → Int} {w : Int} (hw : ¬ inS (tchV x).wr w = true) : doP x p m w = p w := by unfold doP; rw [if_neg hw]
/-- What holds all the time: how many posts and waits there were; all that is known to be ahead has come. -/
def pcN (l : List In) (s : Int) (j : Nat) : Nat := (postsTo l s j).length
structure MacI (mv mk : List In) (s : Mac) : Prop where
  i : s.i ≤ mv.length
  j : s.j ≤ mk.length
  sem : ∀ q, s.sem q = (pcN mv q s.i : Int) + pcN mk q s.j - waitsTo mv q s.i - waitsTo mk q s.j
  fa : fenTo mv mk s.i ≤ (s.j : Int)
  fb : fenTo mk mv s.j ≤ (s.i : Int)
/-- Each semaphore goes one way. -/
def OneWay (mv mk : List In) : Prop := ∀ s, (∀ k, k < mv.length → waitB (getI mv k) s = true → (∀ k, k < mv.length → postB (getI mv k) s = false) ∧ ∀ k, k < mk.length → waitB (getI mk k) s = false) ∧ (∀ k, k < mk.length → waitB (getI mk k) s = true → (∀ k, k < mk.length → postB (getI mk k) s = false) ∧ ∀ k, k < mv.length → waitB (getI mv k) s = false)
theorem pcN_none {l : List In} {s : Int} : ∀ (j : Nat), (∀ k, k < j → postB (getI l k) s = false) → pcN l s j = 0
  | 0, _ => rfl
  | j + 1, h => by
    have h1 := pcN_none j (fun k hk => h k (by omega))
    unfold pcN at h1 ⊢
    rw [postsTo, List.length_append, h1, h j (by omega)]
    simp
theorem waitsTo_none {l : List In} {s : Int} : ∀ (j : Nat), (∀ k, k < j → waitB (getI l k) s = false) → waitsTo l s j = 0
  | 0, _ => rfl
  | j + 1, h => by
    rw [waitsTo, waitsTo_none j (fun k hk => h k (by omega)), h j (by omega)]
    simp
theorem postsTo_pre (l : List In) (s : Int) (j : Nat) : ∀ d, ∃ r, postsTo l s (j + d) = postsTo l s j ++ r
  | 0 => ⟨[], by simp⟩
  | d + 1 => by
    obtain ⟨r, hr⟩ := postsTo_pre l s j d
    rw [← Nat.add_assoc, postsTo, hr]
    exact ⟨_, List.append_assoc _ _ _⟩
/-- A wait that can go on has what it waits for. -/
theorem at_le {own others : List In} {k j : Nat} (hj : j ≤ others.length) (h : waitsTo own (getI own k).a k < pcN others (getI own k).a j) : atV own others k ≤ (j : Int) := by
  unfold atV
  obtain ⟨r, hr⟩ := postsTo_pre others (getI own k).a j (others.length - j)
  rw [show j + (others.length - j) = others.length by omega] at hr
  rw [hr, List.getElem?_append_left (by exact h)]
  unfold pcN at h
  rw [List.getElem?_eq_getElem h]
  simp only [Option.getD_some]
  exact (postsTo_bd others (getI own k).a j _ (List.getElem_mem h)).2
theorem pcN_step (l : List In) (s : Int) (j : Nat) : pcN l s (j + 1) = pcN l s j + (if postB (getI l j) s = true then 1 else 0) := by
  unfold pcN
  rw [postsTo, List.length_append]
  split <;> simp
theorem dl_is (x : In) (q : Int) : dlS x q = (if postB x q = true then 1 else 0) - (if waitB x q = true then 1 else 0) := by
  unfold dlS postB waitB
  by_cases h3 : x.d = 3
  · by_cases ha : x.a = q
    · simp [h3, ha]
    · simp [h3, ha]
  · by_cases h4 : x.d = 4
    · by_cases ha : x.a = q
      · simp [h4, ha]
      · simp [h4, ha]
    · simp [h3, h4]
theorem go_at {mv mk : List In} (ho : OneWay mv mk) {s : Mac} (h : MacI mv mk s) (hg : goI mv s.i s.sem = true) : s.i < mv.length ∧ fenTo mv mk (s.i + 1) ≤ (s.j : Int) := by
  unfold goI at hg
  simp only [Bool.and_eq_true, Bool.or_eq_true, decide_eq_true_eq] at hg
  obtain ⟨h1, h2⟩ := hg
  refine ⟨h1, ?_⟩
  rw [fenTo]
  split
  · rename_i h4
    rcases h2 with h2 | h2
    · exact absurd h4 h2
    · have hw : waitB (getI mv s.i) (getI mv s.i).a = true := by unfold waitB; simp [h4]
      obtain ⟨k1, k2⟩ := (ho (getI mv s.i).a).1 s.i h1 hw
      rw [h.sem, pcN_none s.i (fun k hk => k1 k (by omega)), waitsTo_none (l := mk) s.j (fun k hk => k2 k (by have := h.j; omega))] at h2
      have := at_le (own := mv) (others := mk) (k := s.i) h.j (by omega)
      have := h.fa
      omega
  · exact h.fa
theorem go_at2 {mv mk : List In} (ho : OneWay mv mk) {s : Mac} (h : MacI mv mk s) (hg : goI mk s.j s.sem = true) : s.j < mk.length ∧ fenTo mk mv (s.j + 1) ≤ (s.i : Int) := by
  unfold goI at hg
  simp only [Bool.and_eq_true, Bool.or_eq_true, decide_eq_true_eq] at hg
  obtain ⟨h1, h2⟩ := hg
  refine ⟨h1, ?_⟩
  rw [fenTo]
  split
  · rename_i h4
    rcases h2 with h2 | h2
    · exact absurd h4 h2
    · have hw : waitB (getI mk s.j) (getI mk s.j).a = true := by unfold waitB; simp [h4]
      obtain ⟨k1, k2⟩ := (ho (getI mk s.j).a).2 s.j h1 hw
      rw [h.sem, pcN_none (l := mk) s.j (fun k hk => k1 k (by omega)), waitsTo_none (l := mv) s.i (fun k hk => k2 k (by have := h.i; omega))] at h2
      have := at_le (own := mk) (others := mv) (k := s.j) h.i (by omega)
      have := h.fb
      omega
  · exact h.fb
theorem MacI.a {mv mk : List In} (ho : OneWay mv mk) {s : Mac} (h : MacI mv mk s) (hg : goI mv s.i s.sem = true) : MacI mv mk (stA mv s) := by
  obtain ⟨h1, h2⟩ := go_at ho h hg
  refine ⟨h1, h.j, fun q => ?_, h2, ?_⟩
  rotate_left
  · have := h.fb
    show fenTo mk mv s.j ≤ ((s.i + 1 : Nat) : Int)
    omega
  show s.sem q + dlS (getI mv s.i) q = (pcN mv q (s.i + 1) : Int) + pcN mk q s.j - waitsTo mv q (s.i + 1) - waitsTo mk q s.j
  rw [h.sem, dl_is, pcN_step, waitsTo]
  split <;> split <;> omega
theorem MacI.b {mv mk : List In} (ho : OneWay mv mk) {s : Mac} (h : MacI mv mk s) (hg : goI mk s.j s.sem = true) : MacI mv mk (stB mk s) := by
  obtain ⟨h1, h2⟩ := go_at2 ho h hg
  refine ⟨h.i, h1, fun q => ?_, ?_, h2⟩
  rotate_left
  · have := h.fa
    show fenTo mv mk s.i ≤ ((s.j + 1 : Nat) : Int)
    omega
  show s.sem q + dlS (getI mk s.j) q = (pcN mv q s.i : Int) + pcN mk q (s.j + 1) - waitsTo mv q s.i - waitsTo mk q (s.j + 1)
  rw [h.sem, dl_is, pcN_step, waitsTo]
  split <;> split <;> omega
/-- Right engines. -/
def Engs (mv mk : List In) : Prop := (∀ k, k < mv.length → (getI mv k).d = 1 ∨ (getI mv k).d = 2 ∨ (getI mv k).d = 3 ∨ (getI mv k).d = 4) ∧ ∀ k, k < mk.length → (getI mk k).d ≠ 1 ∧ (getI mk k).d ≠ 2
end Go.Proofs.YtoabffmiedbkkaaGreat.V
namespace Go.Proofs.YtoabffmiedbkkaaGreat.V
set_option maxRecDepth 20000
set_option linter.unusedVariables false
set_option linter.unusedSimpArgs false

/-- Whose turn it is. -/
def pickB (ps : List Int) (t : Nat) : Bool := if ps = [] then true else decide ((ps[t % ps.length]?.getD 0).tmod 2 = 0)
/-- The run. -/
def runM (mv mk : List In) (ps : List Int) : Nat → Nat → Mac → Mac
  | 0, _, s => s
  | f + 1, t, s =>
    if goI mv s.i s.sem = true then
      (if goI mk s.j s.sem = true then (if pickB ps t = true then runM mv mk ps f (t + 1) (stA mv s) else runM mv mk ps f (t + 1) (stB mk s)) else runM mv mk ps f t (stA mv s))
    else (if goI mk s.j s.sem = true then runM mv mk ps f t (stB mk s) else s)
def leftC (mv mk : List In) (s : Mac) : Nat := (mv.length - s.i) + (mk.length - s.j)
theorem go_lt {l : List In} {k : Nat} {sem : Int → Int} (h : goI l k sem = true) : k < l.length := by
  unfold goI at h
  simp only [Bool.and_eq_true, decide_eq_true_eq] at h
  exact h.1
theorem go_end {l : List In} {k : Nat} {sem : Int → Int} (h : l.length ≤ k) : goI l k sem = false := by
  unfold goI
  simp [show ¬ k < l.length by omega]
/-- More time changes nothing. -/
theorem run_more (mv mk : List In) (ps : List Int) : ∀ (f t : Nat) (s : Mac), leftC mv mk s ≤ f → runM mv mk ps (f + 1) t s = runM mv mk ps f t s
  | 0, t, s, h => by
    unfold leftC at h
    unfold runM
    rw [if_neg (by rw [go_end (by omega)]; simp), if_neg (by rw [go_end (by omega)]; simp)]
  | f + 1, t, s, h => by
    have ha : goI mv s.i s.sem = true → leftC mv mk (stA mv s) ≤ f := fun g => by
      have := go_lt g
      unfold leftC at h ⊢
      show (mv.length - (s.i + 1)) + (mk.length - s.j) ≤ f
      omega
    have hb : goI mk s.j s.sem = true → leftC mv mk (stB mk s) ≤ f := fun g => by
      have := go_lt g
      unfold leftC at h ⊢
      show (mv.length - s.i) + (mk.length - (s.j + 1)) ≤ f
      omega
    have e1 : ∀ g, runM mv mk ps (g + 1) t s = if goI mv s.i s.sem = true then
      (if goI mk s.j s.sem = true then (if pickB ps t = true then runM mv mk ps g (t + 1) (stA mv s) else runM mv mk ps g (t + 1) (stB mk s)) else runM mv mk ps g t (stA mv s))
      else (if goI mk s.j s.sem = true then runM mv mk ps g t (stB mk s) else s) := fun g => rfl
    rw [e1 (f + 1), e1 f]
    by_cases ga : goI mv s.i s.sem = true
    · rw [if_pos ga, if_pos ga]
      by_cases gb : goI mk s.j s.sem = true
      · rw [if_pos gb, if_pos gb]
        by_cases p : pickB ps t = true
        · rw [if_pos p, if_pos p]
          exact run_more mv mk ps f (t + 1) _ (ha ga)
        · rw [if_neg p, if_neg p]
          exact run_more mv mk ps f (t + 1) _ (hb gb)
      · rw [if_neg gb, if_neg gb]
        exact run_more mv mk ps f t _ (ha ga)
    · rw [if_neg ga, if_neg ga]
      by_cases gb : goI mk s.j s.sem = true
      · rw [if_pos gb, if_pos gb]
        exact run_more mv mk ps f t _ (hb gb)
      · rw [if_neg gb, if_neg gb]
/-- The machine at its beginning. -/
def macO (ms : List Int) : Mac := ⟨fun _ => 0, fun q => if 0 ≤ q then ms[q.toNat]?.getD 0 else 0, fun _ => 0, 0, 0⟩
theorem macO_ok (mv mk : List In) (ms : List Int) : MacI mv mk (macO ms) := ⟨Nat.zero_le _, Nat.zero_le _, fun q => by simp [macO, pcN, postsTo, waitsTo], by simp [macO, fenTo], by simp [macO, fenTo]⟩
def lastM (mv mk : List In) (ps ms : List Int) : Mac := runM mv mk ps (mv.length + mk.length) 0 (macO ms)
/-- Right code. -/
theorem inssE_get {pad mem : Int} {e : Bool} : ∀ {l : List In}, inssE pad mem e l = 0 → ∀ k, k < l.length → insE pad mem e (getI l k) = 0
  | [], _, k, hk => by simp at hk
  | x :: l, h, k, hk => by
    unfold inssE at h
    split at h
    · rename_i hne; exact absurd h hne
    · rename_i hne
      cases k with
      | zero => simpa [getI] using Decidable.not_not.1 hne
      | succ k => simpa [getI] using inssE_get h k (by simpa using hk)
structure CodeOk (pad mem : Int) (mv mk : List In) : Prop where
  pd : 0 ≤ pad ∧ pad ≤ 4096
  mm : 0 ≤ mem ∧ mem ≤ 1048576
  lv : mv.length ≤ 262144
  lk : mk.length ≤ 262144
  a : ∀ k, k < mv.length → insE pad mem true (getI mv k) = 0
  b : ∀ k, k < mk.length → insE pad mem false (getI mk k) = 0
  c : clashV mv mk = false
theorem code_ok {pad mem : Int} {mv mk : List In} (h : codeE pad mem mv mk = 0) : CodeOk pad mem mv mk := by
  unfold codeE at h
  split at h
  · omega
  · rename_i h1
    split at h
    · omega
    · rename_i h2
      split at h
      · rename_i h3; exact absurd h h3
      · rename_i h3
        split at h
        · rename_i h4; exact absurd h h4
        · rename_i h4
          split at h
          · omega
          · rename_i h5
            exact ⟨by omega, by omega, by omega, by omega, inssE_get (Decidable.not_not.1 h3), inssE_get (Decidable.not_not.1 h4), by simpa using h5⟩
theorem ins_has {pad mem : Int} {e : Bool} {x : In} (h : insE pad mem e x = 0) : hasV e x.d = true := by
  unfold insE at h
  split at h
  · omega
  · rename_i h1; simpa using h1
theorem ins_sem {pad mem : Int} {e : Bool} {x : In} (h : insE pad mem e x = 0) (hd : x.d = 3 ∨ x.d = 4) : 0 ≤ x.a ∧ x.a < 16 := by
  unfold insE at h
  by_cases h1 : hasV e x.d = false
  · rw [if_pos h1] at h; omega
  · rw [if_neg h1, if_pos hd] at h
    by_cases h2 : x.a < 0 ∨ 16 ≤ x.a
    · rw [if_pos h2] at h; omega
    · omega
theorem CodeOk.engs {pad mem : Int} {mv mk : List In} (h : CodeOk pad mem mv mk) : Engs mv mk := by
  refine ⟨fun k hk => ?_, fun k hk => ?_⟩
  · have := ins_has (h.a k hk)
    unfold hasV at this
    simp only [Bool.or_eq_true, decide_eq_true_eq] at this
    rcases this with (h1 | h1) | h1
    · omega
    · omega
    · split at h1
      · omega
      · simp at h1
  · have := ins_has (h.b k hk)
    unfold hasV at this
    simp only [Bool.or_eq_true, decide_eq_true_eq] at this
    rcases this with (h1 | h1) | h1
    · omega
    · omega
    · split at h1
      · simp at h1
      · omega
theorem uses_at {l : List In} {d s : Int} {k : Nat} (hk : k < l.length) (h1 : (getI l k).d = d) (h2 : (getI l k).a = s) : usesV l d s = true := by
  unfold usesV
  rw [List.any_eq_true]
  have e : getI l k = l[k] := by unfold getI; simp [hk]
  rw [e] at h1 h2
  exact ⟨l[k], List.getElem_mem hk, by simp [h1, h2]⟩
theorem CodeOk.oneWay {pad mem : Int} {mv mk : List In} (h : CodeOk pad mem mv mk) : OneWay mv mk := by
  have hc : ∀ s : Int, 0 ≤ s → s < 16 → semV mv mk s = false := fun s h0 h1 => by
    have := h.c
    unfold clashV at this
    rw [List.any_eq_false] at this
    have h2 := this s.toNat (by simp; omega)
    rw [show ((s.toNat : Nat) : Int) = s by omega] at h2
    simpa using h2
  intro s
  refine ⟨fun k hk hw => ?_, fun k hk hw => ?_⟩
  · unfold waitB at hw
    simp only [Bool.and_eq_true, decide_eq_true_eq] at hw
    have hs := ins_sem (h.a k hk) (.inr hw.1)
    have h1 := hc s (by omega) (by omega)
    have h2 := uses_at hk hw.1 hw.2
    unfold semV at h1
    rw [h2] at h1
    simp only [Bool.or_true, Bool.and_true, Bool.or_eq_false_iff] at h1
    refine ⟨fun k' hk' => ?_, fun k' hk' => ?_⟩
    · cases e : postB (getI mv k') s with
      | false => rfl
      | true =>
        unfold postB at e
        simp only [Bool.and_eq_true, decide_eq_true_eq] at e
        rw [uses_at hk' e.1 e.2] at h1
        simp at h1
    · cases e : waitB (getI mk k') s with
      | false => rfl
      | true =>
        unfold waitB at e
        simp only [Bool.and_eq_true, decide_eq_true_eq] at e
        rw [uses_at hk' e.1 e.2] at h1
        simp at h1
  · unfold waitB at hw
    simp only [Bool.and_eq_true, decide_eq_true_eq] at hw
    have hs := ins_sem (h.b k hk) (.inr hw.1)
    have h1 := hc s (by omega) (by omega)
    have h2 := uses_at hk hw.1 hw.2
    unfold semV at h1
    rw [h2] at h1
    simp only [Bool.or_true, Bool.true_and, Bool.or_eq_false_iff] at h1
    refine ⟨fun k' hk' => ?_, fun k' hk' => ?_⟩
    · cases e : postB (getI mk k') s with
      | false => rfl
      | true =>
        unfold postB at e
        simp only [Bool.and_eq_true, decide_eq_true_eq] at e
        rw [uses_at hk' e.1 e.2] at h1
        simp at h1
    · cases e : waitB (getI mv k') s with
      | false => rfl
      | true =>
        unfold waitB at e
        simp only [Bool.and_eq_true, decide_eq_true_eq] at e
        rw [uses_at hk' e.1 e.2] at h1
        simp at h1
/-- Numbers stay numbers. -/
def bd64 (x : Int) : Prop := -9223372036854775808 ≤ x ∧ x ≤ 9223372036854775807
theorem wrp_bd (x : Int) : bd64 (wrp x) := by unfold bd64 wrp; omega
theorem twoI_bd (d : Int) {x y : Int} (hx : bd64 x) (hy : bd64 y) : bd64 (twoI d x y) := by
  unfold twoI
  split
  · exact wrp_bd _
  split
  · exact wrp_bd _
  split
  · exact wrp_bd _
  split
  · split
    · exact hy
    · exact hx
  · unfold bd64
    split <;> omega
theorem accI_bd {p : Int → Int} {b c : Int} : ∀ (k : Nat) {z : Int}, bd64 z → bd64 (accI p b c k z)
  | 0, z, h => h
  | k + 1, z, h => by unfold accI; exact wrp_bd _
theorem doP_bd {x : In} {p m : Int → Int} (hv : bd64 x.v) (hp : ∀ w, bd64 (p w)) (hm : ∀ q, bd64 (m q)) (w : Int) : bd64 (doP x p m w) := by
  unfold doP
  split
  · unfold newW
    repeat' split
    all_goals first | exact hm _ | exact hv | exact hp _ | exact wrp_bd _ | exact accI_bd _ (hp _) | exact twoI_bd _ (hp _) (hp _)
  · exact hp w
theorem stoM_bd {x : In} {p : Int → Int} (hp : ∀ w, bd64 (p w)) : ∀ (k : Nat) {m : Int → Int}, (∀ q, bd64 (m q)) → ∀ q, bd64 (stoM x p k m q)
  | 0, m, hm, q => hm q
  | k + 1, m, hm, q => by
    unfold stoM
    split
    · exact hp _
    · exact stoM_bd hp k hm q
theorem doMm_bd {x : In} {p m : Int → Int} (hp : ∀ w, bd64 (p w)) (hm : ∀ q, bd64 (m q)) (q : Int) : bd64 (doMm x p m q) := by
  unfold doMm
  split
  · exact stoM_bd hp _ hm q
  · exact hm q
end Go.Proofs.YtoabffmiedbkkaaGreat.V
namespace Go.Proofs.YtoabffmiedbkkaaGreat.V
set_option maxRecDepth 20000
set_option linter.unusedVariables false
set_option linter.unusedSimpArgs false

def VOk (l : List In) : Prop := ∀ k, k < l.length → bd64 (getI l k).v
def BdM (s : Mac) : Prop := (∀ q, bd64 (s.pad q)) ∧ ∀ q, bd64 (s.mem q)
theorem BdM.a {mv : List In} {s : Mac} (h : BdM s) (hv : VOk mv) (hi : s.i < mv.length) : BdM (stA mv s) := ⟨fun q => doP_bd (hv _ hi) h.1 h.2 q, fun q => doMm_bd h.1 h.2 q⟩
theorem BdM.b {mk : List In} {s : Mac} (h : BdM s) (hv : VOk mk) (hj : s.j < mk.length) : BdM (stB mk s) := ⟨fun q => doP_bd (hv _ hj) h.1 h.2 q, fun q => doMm_bd h.1 h.2 q⟩
theorem BdM.run {mv mk : List In} {ps : List Int} (h1 : VOk mv) (h2 : VOk mk) : ∀ (f t : Nat) (s : Mac), BdM s → BdM (runM mv mk ps f t s)
  | 0, _, _, h => h
  | f + 1, t, s, h => by
    unfold runM
    by_cases ga : goI mv s.i s.sem = true
    · rw [if_pos ga]
      by_cases gb : goI mk s.j s.sem = true
      · rw [if_pos gb]
        split
        · exact BdM.run h1 h2 f _ _ (h.a h1 (go_lt ga))
        · exact BdM.run h1 h2 f _ _ (h.b h2 (go_lt gb))
      · rw [if_neg gb]
        exact BdM.run h1 h2 f _ _ (h.a h1 (go_lt ga))
    · rw [if_neg ga]
      by_cases gb : goI mk s.j s.sem = true
      · rw [if_pos gb]
        exact BdM.run h1 h2 f _ _ (h.b h2 (go_lt gb))
      · rw [if_neg gb]
        exact h
end Go.Proofs.YtoabffmiedbkkaaGreat.V
