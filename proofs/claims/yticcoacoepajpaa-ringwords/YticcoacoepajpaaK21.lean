/-
  A team's play: the mathematics. A team's notes, known ahead of any play: the mathematics. A team's notes: what holds all the time. A team's notes: each step, and that nobody waits for ever. A team's play to its end.
-/
import Derived.Test.YticcoacoepajpaaK20
namespace Go.Proofs.Yticcoacoepajpaa.V
open Go Go.RowKit
set_option linter.unusedVariables false
set_option linter.unusedSimpArgs false

def ntZ : Nt := ⟨0, 0, 0, []⟩
def inN (n : Nat) (m : Int) : Bool := decide (0 ≤ m) && decide (m < (n : Int))
/-- Who knows what, and what is on its way. -/
structure Pl where
  ss : Nat → St
  ws : List Nt
def nthW (ws : List Nt) (k : Nat) : Nt := ws[k]?.getD ntZ
/-- A note comes to a member. -/
def giveM (d n : Nat) (P : Pl) (i : Nat) (x : Nt) : Pl × Sn := (⟨updN P.ss i (takeM d n i (P.ss i) x), P.ws⟩, ⟨false, ntZ, takeE d n i (P.ss i) x, []⟩)
/-- A step. -/
def stepM (d n : Nat) (P : Pl) (p : Stp) : Pl × Sn :=
  if p.act = 1 ∧ inN n p.mem = true then
    (if canM d n (P.ss p.mem.toNat) = true then (⟨updN P.ss p.mem.toNat (nextM d n (P.ss p.mem.toNat)), P.ws ++ [noteM d n p.mem.toNat (P.ss p.mem.toNat)]⟩, ⟨true, noteM d n p.mem.toNat (P.ss p.mem.toNat), 0, []⟩) else (P, ⟨false, ntZ, 0, []⟩))
  else if (p.act = 2 ∨ p.act = 3) ∧ P.ws ≠ [] then
    giveM d n ⟨P.ss, if p.act = 2 then P.ws.eraseIdx (modI p.num P.ws.length) else P.ws⟩ (nthW P.ws (modI p.num P.ws.length)).to.toNat (nthW P.ws (modI p.num P.ws.length))
  else if p.act = 4 ∧ inN n p.mem = true then giveM d n P p.mem.toNat p.nt
  else if p.act = 5 ∧ inN n p.mem = true then (P, ⟨false, ntZ, resE d n (P.ss p.mem.toNat), resL d n p.mem.toNat (P.ss p.mem.toNat)⟩)
  else (P, ⟨false, ntZ, 0, []⟩)
def playM (d n : Nat) : Pl → List Stp → Pl × List Sn
  | P, [] => (P, [])
  | P, p :: l => ((playM d n (stepM d n P p).1 l).1, (stepM d n P p).2 :: (playM d n (stepM d n P p).1 l).2)
theorem play_snoc (d n : Nat) : ∀ (l : List Stp) (P : Pl) (p : Stp), playM d n P (l ++ [p]) = ((stepM d n (playM d n P l).1 p).1, (playM d n P l).2 ++ [(stepM d n (playM d n P l).1 p).2])
  | [], P, p => rfl
  | q :: l, P, p => by
    show playM d n P (q :: (l ++ [p])) = _
    unfold playM
    rw [play_snoc d n l (stepM d n P q).1 p]
    rfl
/-- What is wrong with a team. -/
def firstE : List Int → Int
  | [] => 0
  | x :: l => if x ≠ 0 then x else firstE l
def wrongL (d : Int) (xss : List (List Int)) : List Int := (List.range xss.length).map fun i : Nat => wrongM d (xss.length : Int) (i : Int) (xss[i]?.getD []).length
def teamE (d : Int) (xss : List (List Int)) : Int := firstE (wrongL d xss)
def begP (d n : Nat) (xss : List (List Int)) : Pl := ⟨fun i => begM d n i (xss[i]?.getD []), []⟩
theorem firstE_at : ∀ (l : List Int) (k : Nat), (∀ j, j < k → l[j]?.getD 0 = 0) → l[k]?.getD 0 ≠ 0 → firstE l = l[k]?.getD 0
  | [], k, _, h => by simp at h
  | x :: l, 0, _, h => by
    unfold firstE
    have h' : x ≠ 0 := by simpa using h
    rw [if_pos h']
    simp
  | x :: l, k + 1, h0, h => by
    have hx : x = 0 := by simpa using h0 0 (by omega)
    unfold firstE
    rw [if_neg (by simp [hx]), firstE_at l k (fun j hj => by simpa using h0 (j + 1) (by omega)) (by simpa using h)]
    simp
theorem firstE_none : ∀ (l : List Int), (∀ j, j < l.length → l[j]?.getD 0 = 0) → firstE l = 0
  | [], _ => rfl
  | x :: l, h => by
    have hx : x = 0 := by simpa using h 0 (by simp)
    unfold firstE
    rw [if_neg (by simp [hx])]
    exact firstE_none l fun j hj => by simpa using h (j + 1) (by simp; omega)
theorem wrongL_at (d : Int) (xss : List (List Int)) {i : Nat} (hi : i < xss.length) : (wrongL d xss)[i]?.getD 0 = wrongM d (xss.length : Int) (i : Int) (xss[i]?.getD []).length := by simp [wrongL, hi]
end Go.Proofs.Yticcoacoepajpaa.V
namespace Go.Proofs.Yticcoacoepajpaa.V
open Go Go.RowKit
set_option linter.unusedVariables false
set_option linter.unusedSimpArgs false

/-- Finite facts of the numbers of members and notes. -/
theorem fin_from_to : ∀ d < 5, ∀ n < 7, ∀ i < n, ∀ t < 11, fromN d n (toN d n i t) t = i ∧ toN d n (fromN d n i t) t = i := by decide +kernel
theorem fin_take_send : ∀ d < 4, 1 ≤ d → ∀ n < 7, ∀ i < n, ∀ t < 11, takeN d n i t = sendN d n i (t + 1) := by decide +kernel
theorem fin_apart' : ∀ d < 3, ∀ n < 7, ∀ i < n, ∀ t < 11, ∀ u < n - 1, takeN (d + 1) n i (t + u) ≠ sendN (d + 1) n i t := by decide +kernel
theorem fin_apart (d : Nat) (h4 : d < 4) (h1 : 1 ≤ d) (n : Nat) (hn : n < 7) (i : Nat) (hi : i < n) (t : Nat) (ht : t < 11) (u : Nat) (hu : u < n - 1) : takeN d n i (t + u) ≠ sendN d n i t := by
  have h := fin_apart' (d - 1) (by omega) n hn i hi t ht u hu
  rwa [show d - 1 + 1 = d by omega] at h
theorem fin_inj : ∀ d < 5, ∀ n < 7, ∀ i < n, ∀ t < n - 1, ∀ v < t, takeN d n i v ≠ takeN d n i t := by decide +kernel
theorem fin_apart4 : ∀ n < 7, ∀ i < n, ∀ t < n - 1, fromN 4 n i t ≠ i := by decide +kernel
theorem notN_small {d n : Nat} (h : n < 7) : notN d n ≤ 10 := by unfold notN; split <;> omega

/-- The words of all: what is right of them. -/
structure TmOk (d n : Nat) (x : Nat → List Int) : Prop where
  d1 : 1 ≤ d
  d5 : d < 5
  n1 : 1 ≤ n
  n7 : n < 7
  len : d ≠ 3 → ∀ i, i < n → (x i).length = (x 0).length
  sm : ∀ i, i < n → (x i).length ≤ 200
  dv : d = 4 → (x 0).length % n = 0
  rng : ∀ i, i < n → ∀ w ∈ x i, -9223372036854775808 ≤ w ∧ w ≤ 9223372036854775807
def ownP (d n : Nat) (x : Nat → List Int) (i : Nat) : List (List Int) := (begM d n i (x i)).parts
theorem ownP_own (d n : Nat) (x : Nat → List Int) (i : Nat) : (begM d n i (x i)).own = ownP d n x i := rfl
theorem ownP_len (d n : Nat) (x : Nat → List Int) (i : Nat) : (ownP d n x i).length = n := by simp [ownP, begM]
theorem ownP_at (d n : Nat) (x : Nat → List Int) (i p : Nat) (hp : p < n) : prt (ownP d n x i) p = if d = 3 then (if p = i then x i else []) else pieceL (x i) p n := by simp [ownP, begM, prt, hp]
/-- What note t of member i says. -/
def dat (d n : Nat) (x : Nat → List Int) : Nat → Nat → List Int
  | 0, i => prt (ownP d n x i) (sendN d n i 0)
  | t + 1, i => if d = 4 then prt (ownP d n x i) (sendN d n i (t + 1))
    else if sumsB d n t = true then addW (prt (ownP d n x i) (takeN d n i t)) (dat d n x t (fromN d n i t)) else dat d n x t (fromN d n i t)
/-- What member i has when it has used so many notes. -/
def parA (d n : Nat) (x : Nat → List Int) (i : Nat) : Nat → List (List Int)
  | 0 => ownP d n x i
  | t + 1 => (parA d n x i t).set (takeN d n i t) (if sumsB d n t = true then addW (prt (parA d n x i t) (takeN d n i t)) (dat d n x t (fromN d n i t)) else dat d n x t (fromN d n i t))
theorem parA_len (d n : Nat) (x : Nat → List Int) (i : Nat) : ∀ T, (parA d n x i T).length = n
  | 0 => ownP_len d n x i
  | T + 1 => by unfold parA; rw [List.length_set]; exact parA_len d n x i T
theorem prt_setE (P : List (List Int)) (p : Nat) (ys : List Int) (hp : p < P.length) : prt (P.set p ys) p = ys := by simp [prt, hp]
theorem prt_setN (P : List (List Int)) (p k : Nat) (ys : List Int) (h : p ≠ k) : prt (P.set p ys) k = prt P k := by
  unfold prt; rw [List.getElem?_set_ne h]
/-- How long a piece is. -/
def plN (n L p : Nat) : Nat := (p + 1) * L / n - p * L / n
theorem piece_len (xs : List Int) (p n : Nat) (hp : p < n) : (pieceL xs p n).length = plN n xs.length p := by
  have h1 : (p + 1) * xs.length / n ≤ xs.length := by
    refine Nat.div_le_of_le_mul ?_
    exact Nat.mul_le_mul_right _ hp
  unfold pieceL plN
  rw [List.length_drop, List.length_take, Nat.min_eq_left h1]
theorem pl_even {n L p : Nat} (hn : 0 < n) (h : L % n = 0) : plN n L p = L / n := by
  obtain ⟨q, rfl⟩ := Nat.dvd_of_mod_eq_zero h
  unfold plN
  have e1 : (p + 1) * (n * q) / n = (p + 1) * q := by rw [show (p + 1) * (n * q) = n * ((p + 1) * q) by rw [← Nat.mul_assoc, Nat.mul_comm (p + 1) n, Nat.mul_assoc]]; exact Nat.mul_div_cancel_left _ hn
  have e2 : p * (n * q) / n = p * q := by rw [show p * (n * q) = n * (p * q) by rw [← Nat.mul_assoc, Nat.mul_comm p n, Nat.mul_assoc]]; exact Nat.mul_div_cancel_left _ hn
  rw [e1, e2, Nat.mul_div_cancel_left _ hn, Nat.succ_mul]
  omega
theorem own_len {d n : Nat} {x : Nat → List Int} (h : TmOk d n x) (hd : d ≠ 3) {i p : Nat} (hi : i < n) (hp : p < n) : (prt (ownP d n x i) p).length = plN n (x 0).length p := by
  rw [ownP_at d n x i p hp, if_neg hd, piece_len _ _ _ hp, h.len hd i hi]
theorem dat_len {d n : Nat} {x : Nat → List Int} (h : TmOk d n x) (hd : d ≠ 3) : ∀ (t : Nat) (i : Nat), i < n → t < 11 → (dat d n x t i).length = plN n (x 0).length (sendN d n i t)
  | 0, i, hi, ht => own_len h hd hi (sendN_lt h.n1)
  | t + 1, i, hi, ht => by
    unfold dat
    by_cases h4 : d = 4
    · rw [if_pos h4]; exact own_len h hd hi (sendN_lt h.n1)
    · rw [if_neg h4]
      have e : (dat d n x t (fromN d n i t)).length = plN n (x 0).length (sendN d n i (t + 1)) := by
        rw [dat_len h hd t _ (fromN_lt h.n1) (by omega), ← fin_take_send d (by have := h.d5; omega) h.d1 n h.n7 i hi t (by omega)]
        unfold takeN; rw [if_neg h4]
      split
      · rw [addW_len]; exact e
      · exact e
theorem dat3_len {d n : Nat} {x : Nat → List Int} (h : TmOk d n x) (hd : d = 3) : ∀ (t : Nat) (i : Nat), i < n → t < 11 → (dat d n x t i).length ≤ 200
  | 0, i, hi, ht => by
    unfold dat
    rw [ownP_at d n x i _ (sendN_lt h.n1), if_pos hd]
    split
    · exact h.sm i hi
    · simp
  | t + 1, i, hi, ht => by
    unfold dat
    rw [if_neg (by omega), if_neg (by simp [sumsB]; omega)]
    exact dat3_len h hd t _ (fromN_lt h.n1) (by omega)
theorem parA_plen {d n : Nat} {x : Nat → List Int} (h : TmOk d n x) (hd : d ≠ 3) {i : Nat} (hi : i < n) : ∀ (T : Nat), T < 11 → ∀ p, p < n → (prt (parA d n x i T) p).length = plN n (x 0).length p
  | 0, _, p, hp => own_len h hd hi hp
  | T + 1, hT, p, hp => by
    unfold parA
    by_cases e : takeN d n i T = p
    · rw [e, prt_setE _ _ _ (by rw [parA_len]; exact hp)]
      have hl : (dat d n x T (fromN d n i T)).length = plN n (x 0).length p := by
        rw [dat_len h hd T _ (fromN_lt h.n1) (by omega), ← e]
        by_cases h4 : d = 4
        · rw [pl_even h.n1 (h.dv h4), pl_even h.n1 (h.dv h4)]
        · unfold takeN; rw [if_neg h4]
      split
      · rw [addW_len]; exact hl
      · exact hl
    · rw [prt_setN _ _ _ _ e]
      exact parA_plen h hd hi T (by omega) p hp
/-- What is not touched stays. -/
theorem parA_keep {d n : Nat} {x : Nat → List Int} {i p : Nat} (hp : p < n) : ∀ (u T : Nat), (∀ v, v < u → takeN d n i (T + v) ≠ p) → prt (parA d n x i (T + u)) p = prt (parA d n x i T) p
  | 0, T, _ => rfl
  | u + 1, T, hv => by
    show prt ((parA d n x i (T + u)).set (takeN d n i (T + u)) (if sumsB d n (T + u) = true then addW (prt (parA d n x i (T + u)) (takeN d n i (T + u))) (dat d n x (T + u) (fromN d n i (T + u))) else dat d n x (T + u) (fromN d n i (T + u)))) p = _
    rw [prt_setN _ _ _ _ (hv u (by omega))]
    exact parA_keep hp u T (fun v h' => hv v (by omega))
/-- What is sent as note t is known, whenever it is sent. -/
theorem parA_send {d n : Nat} {x : Nat → List Int} (h : TmOk d n x) (h4 : d ≠ 4) {i : Nat} (hi : i < n) (t : Nat) (ht : t < notN d n) (u : Nat) (hu : u ≤ n - 1) : prt (parA d n x i (t + u)) (sendN d n i t) = dat d n x t i := by
  have h5 := h.d5
  have hn := h.n1
  have ht11 := notN_small (d := d) h.n7
  rw [parA_keep (sendN_lt h.n1) u t (fun v hv => fin_apart d (by omega) h.d1 n h.n7 i hi t (by omega) v (by omega))]
  cases t with
  | zero => rfl
  | succ t =>
    unfold dat
    rw [if_neg h4, ← fin_take_send d (by omega) h.d1 n h.n7 i hi t (by omega)]
    conv => lhs; unfold parA
    rw [prt_setE _ _ _ (by rw [parA_len]; exact takeN_lt h.n1)]
    by_cases hs : sumsB d n t = true
    · rw [if_pos hs, if_pos hs]
      have ht1 : t < n - 1 := by
        unfold sumsB at hs
        simp only [decide_eq_true_eq] at hs
        unfold notN at ht
        split at ht <;> omega
      have e : prt (parA d n x i t) (takeN d n i t) = prt (ownP d n x i) (takeN d n i t) := by
        have h9 := parA_keep (d := d) (x := x) (i := i) (takeN_lt (d := d) (me := i) (t := t) h.n1) t 0 (fun v hv => by rw [Nat.zero_add]; exact fin_inj d (by omega) n h.n7 i hi t ht1 v hv)
        rw [Nat.zero_add] at h9
        exact h9
      rw [e]
    · rw [if_neg hs, if_neg hs]
end Go.Proofs.Yticcoacoepajpaa.V
namespace Go.Proofs.Yticcoacoepajpaa.V
open Go Go.RowKit
set_option linter.unusedVariables false
set_option linter.unusedSimpArgs false

/-- Has a member note t (used or kept)? -/
def gotM (s : St) (t : Nat) : Prop := t < s.taken ∨ ∃ xs, lookL t s.early = some xs
/-- What is right of a member that may have notes to use. -/
structure StI (d n : Nat) (x : Nat → List Int) (i : Nat) (s : St) : Prop where
  own : s.own = ownP d n x i
  parts : s.parts = parA d n x i s.taken
  early : ∀ t xs, lookL t s.early = some xs → xs = dat d n x t (fromN d n i t) ∧ t < notN d n
  sent : s.sent ≤ notN d n
  taken : s.taken ≤ notN d n
theorem StI.use {d n : Nat} {x : Nat → List Int} {i : Nat} {s : St} (h : StI d n x i s) {xs : List Int} (hl : lookL s.taken s.early = some xs) : StI d n x i (useM d n i s xs) := by
  obtain ⟨e1, e2⟩ := h.early _ _ hl
  refine ⟨h.own, ?_, h.early, h.sent, e2⟩
  show s.parts.set _ _ = parA d n x i (s.taken + 1)
  unfold parA
  rw [h.parts, e1]
theorem got_use {d n : Nat} {i : Nat} {s : St} {xs : List Int} (hl : lookL s.taken s.early = some xs) (t : Nat) : gotM (useM d n i s xs) t ↔ gotM s t := by
  unfold gotM useM
  simp only
  constructor
  · rintro (h | h)
    · by_cases e : t = s.taken
      · right; exact ⟨xs, by rw [e]; exact hl⟩
      · left; omega
    · exact .inr h
  · rintro (h | h)
    · left; omega
    · exact .inr h
/-- All that can be used is used. -/
theorem drain_all {d n : Nat} {x : Nat → List Int} {i : Nat} : ∀ (f : Nat) (s : St), StI d n x i s → notN d n - s.taken ≤ f → StI d n x i (drainM d n i f s) ∧ lookL (drainM d n i f s).taken (drainM d n i f s).early = none ∧ (drainM d n i f s).sent = s.sent ∧ s.taken ≤ (drainM d n i f s).taken ∧ ∀ t, gotM (drainM d n i f s) t ↔ gotM s t
  | 0, s, h, hf => by
    refine ⟨h, ?_, rfl, Nat.le_refl _, fun t => Iff.rfl⟩
    show lookL s.taken s.early = none
    cases hl : lookL s.taken s.early with
    | none => rfl
    | some xs => have := (h.early _ _ hl).2; omega
  | f + 1, s, h, hf => by
    unfold drainM
    cases hl : lookL s.taken s.early with
    | none => exact ⟨h, hl, rfl, Nat.le_refl _, fun t => Iff.rfl⟩
    | some xs =>
      have hu : (useM d n i s xs).taken = s.taken + 1 := rfl
      obtain ⟨h1, h2, h3, h4, h5⟩ := drain_all f (useM d n i s xs) (h.use hl) (by omega)
      exact ⟨h1, h2, h3, (by show s.taken ≤ (drainM d n i f (useM d n i s xs)).taken; omega), fun t => (h5 t).trans (got_use hl t)⟩
/-- A note of the play's own. -/
def ntI (d n : Nat) (x : Nat → List Int) (i t : Nat) : Nt := ⟨i, toN d n i t, t, dat d n x t i⟩
theorem take_right {d n : Nat} {x : Nat → List Int} (hx : TmOk d n x) {i t : Nat} (hi : i < n) (ht : t < notN d n) {s : St} (h : StI d n x (toN d n i t) s) (hdr : lookL s.taken s.early = none) :
    StI d n x (toN d n i t) (takeM d n (toN d n i t) s (ntI d n x i t)) ∧ lookL (takeM d n (toN d n i t) s (ntI d n x i t)).taken (takeM d n (toN d n i t) s (ntI d n x i t)).early = none ∧ (takeM d n (toN d n i t) s (ntI d n x i t)).sent = s.sent ∧ s.taken ≤ (takeM d n (toN d n i t) s (ntI d n x i t)).taken ∧ ∀ u, gotM (takeM d n (toN d n i t) s (ntI d n x i t)) u ↔ (gotM s u ∨ u = t) := by
  have h11 := notN_small (d := d) hx.n7
  have hft := (fin_from_to d hx.d5 n hx.n7 i hi t (by omega)).1
  have hj : toN d n i t < n := toN_lt hx.n1
  unfold takeM
  by_cases hg : gotM s t
  · have hf : ¬ fitsM d n (toN d n i t) s (ntI d n x i t) = true := by
      intro hf
      unfold fitsM ntI at hf
      simp only [Bool.and_eq_true, decide_eq_true_eq, Int.toNat_natCast] at hf
      obtain ⟨_, h2, _, _, h5, _⟩ := hf
      rcases hg with hg | ⟨xs, hg⟩
      · omega
      · rw [hg] at h5; simp at h5
    rw [if_neg hf]
    exact ⟨h, hdr, rfl, Nat.le_refl _, fun u => ⟨fun h' => .inl h', fun h' => h'.elim id (fun e => e ▸ hg)⟩⟩
  · have hl : lookL t s.early = none := by
      cases e : lookL t s.early with
      | none => rfl
      | some xs => exact absurd (.inr ⟨xs, e⟩) hg
    have hlt : s.taken ≤ t := by
      by_cases e : t < s.taken
      · exact absurd (.inl e) hg
      · omega
    have hf : fitsM d n (toN d n i t) s (ntI d n x i t) = true := by
      unfold fitsM ntI
      simp only [Bool.and_eq_true, decide_eq_true_eq, Int.toNat_natCast]
      refine ⟨by first | rfl | trivial, by omega, by omega, by rw [hft], by rw [hl]; rfl, ?_⟩
      by_cases h3 : d = 3
      · rw [if_pos h3]
        have := dat3_len hx h3 t i hi (by omega)
        simp only [decide_eq_true_eq]; omega
      · rw [if_neg h3]
        simp only [decide_eq_true_eq]
        rw [h.parts, parA_plen hx h3 hj _ (by have := h.taken; omega) _ (takeN_lt hx.n1), dat_len hx h3 t i hi (by omega)]
        by_cases h4 : d = 4
        · rw [pl_even hx.n1 (hx.dv h4), pl_even hx.n1 (hx.dv h4)]
        · unfold takeN; rw [if_neg h4, hft]
    rw [if_pos hf]
    have est : (ntI d n x i t).st.toNat = t := by simp [ntI]
    rw [est]
    have hk : StI d n x (toN d n i t) { s with early := s.early ++ [(t, (ntI d n x i t).data)] } := by
      refine ⟨h.own, h.parts, fun u xs hu => ?_, h.sent, h.taken⟩
      simp only at hu
      rw [lookL_snoc] at hu
      cases e : lookL u s.early with
      | some z => rw [e] at hu; simp only at hu; cases hu; exact h.early u _ e
      | none =>
        rw [e] at hu
        simp only [ntI] at hu
        by_cases e' : t = u
        · subst e'
          rw [if_pos rfl] at hu
          cases hu
          exact ⟨by rw [hft], ht⟩
        · rw [if_neg e'] at hu; cases hu
    obtain ⟨g1, g2, g3, g4, g5⟩ := drain_all (d := d) (n := n) (x := x) (i := toN d n i t) (notN d n - s.taken) _ hk (Nat.le_refl _)
    refine ⟨g1, g2, g3, g4, fun u => (g5 u).trans ?_⟩
    unfold gotM
    simp only
    rw [lookL_snoc]
    constructor
    · rintro (h' | ⟨xs, h'⟩)
      · exact .inl (.inl h')
      · cases e : lookL u s.early with
        | some z => exact .inl (.inr ⟨z, rfl⟩)
        | none =>
          rw [e] at h'
          simp only [ntI] at h'
          by_cases e' : t = u
          · exact .inr e'.symm
          · rw [if_neg e'] at h'; cases h'
    · rintro ((h' | ⟨xs, h'⟩) | h')
      · exact .inl h'
      · right; rw [h']; exact ⟨xs, rfl⟩
      · subst h'
        right
        rw [hl]
        simp [ntI]
/-- What holds all the time. -/
structure PlI (d n : Nat) (x : Nat → List Int) (P : Pl) : Prop where
  st : ∀ i, i < n → StI d n x i (P.ss i) ∧ lookL (P.ss i).taken (P.ss i).early = none
  can : d ≠ 4 → ∀ i, i < n → (P.ss i).sent ≤ (P.ss i).taken + 1
  ws : ∀ y ∈ P.ws, ∃ i t, i < n ∧ t < (P.ss i).sent ∧ y = ntI d n x i t
  dl : ∀ i t, i < n → t < (P.ss i).sent → gotM (P.ss (toN d n i t)) t ∨ ntI d n x i t ∈ P.ws
  fr : ∀ j t, j < n → gotM (P.ss j) t → t < (P.ss (fromN d n j t)).sent
theorem pli_start {d n : Nat} {x : Nat → List Int} : PlI d n x ⟨fun i => begM d n i (x i), []⟩ := by
  refine ⟨fun i hi => ⟨⟨rfl, rfl, fun t xs h => by simp [begM, lookL] at h, Nat.zero_le _, Nat.zero_le _⟩, rfl⟩, fun _ i hi => by simp [begM], fun y hy => by simp at hy, fun i t hi ht => by simp [begM] at ht, fun j t hj hg => ?_⟩
  rcases hg with h | ⟨xs, h⟩
  · simp [begM] at h
  · simp [begM, lookL] at h
/-- A note comes to its member (and may have come before). -/
theorem PlI.give {d n : Nat} {x : Nat → List Int} (hx : TmOk d n x) {P : Pl} (h : PlI d n x P) {i t : Nat} (hi : i < n) (ht : t < (P.ss i).sent) {ws : List Nt} (hw1 : ∀ y ∈ ws, y ∈ P.ws) (hw2 : ∀ y ∈ P.ws, y = ntI d n x i t ∨ y ∈ ws) :
    PlI d n x (giveM d n ⟨P.ss, ws⟩ (toN d n i t) (ntI d n x i t)).1 ∧ ∀ j, ((giveM d n ⟨P.ss, ws⟩ (toN d n i t) (ntI d n x i t)).1.ss j).sent = (P.ss j).sent := by
  have hj : toN d n i t < n := toN_lt hx.n1
  have h11 := notN_small (d := d) hx.n7
  have htn : t < notN d n := Nat.lt_of_lt_of_le ht (h.st i hi).1.sent
  obtain ⟨g1, g2, g3, g4, g5⟩ := take_right hx hi htn (h.st _ hj).1 (h.st _ hj).2
  have hs : ∀ j, (updN P.ss (toN d n i t) (takeM d n (toN d n i t) (P.ss (toN d n i t)) (ntI d n x i t)) j).sent = (P.ss j).sent := fun j => by
    by_cases e : j = toN d n i t
    · rw [e, updN_same]; exact g3
    · rw [updN_other _ _ e]
  have hg : ∀ j u, gotM (updN P.ss (toN d n i t) (takeM d n (toN d n i t) (P.ss (toN d n i t)) (ntI d n x i t)) j) u ↔ (gotM (P.ss j) u ∨ (j = toN d n i t ∧ u = t)) := fun j u => by
    by_cases e : j = toN d n i t
    · subst e; rw [updN_same]; simpa using g5 u
    · rw [updN_other _ _ e]; simp [e]
  unfold giveM
  simp only
  refine ⟨⟨fun j hj' => ?_, fun hd j hj' => ?_, fun y hy => ?_, fun i' t' hi' ht' => ?_, fun j u hj' hu => ?_⟩, hs⟩
  · simp only
    by_cases e : j = toN d n i t
    · subst e; rw [updN_same]; exact ⟨g1, g2⟩
    · rw [updN_other _ _ e]; exact h.st j hj'
  · simp only
    rw [hs]
    have h9 := h.can hd j hj'
    by_cases e : j = toN d n i t
    · subst e; rw [updN_same]; omega
    · rw [updN_other _ _ e]; exact h9
  · obtain ⟨i', t', a1, a2, a3⟩ := h.ws y (hw1 y hy)
    exact ⟨i', t', a1, by simp only; rw [hs]; exact a2, a3⟩
  · simp only at ht' ⊢
    rw [hs] at ht'
    rw [hg]
    rcases h.dl i' t' hi' ht' with a | a
    · exact .inl (.inl a)
    · rcases hw2 _ a with e | e
      · left; right
        have e1 : (i' : Int) = (i : Int) := congrArg Nt.fr e
        have e2 : (t' : Int) = (t : Int) := congrArg Nt.st e
        have e1' : i' = i := by omega
        have e2' : t' = t := by omega
        rw [e1', e2']; exact ⟨rfl, rfl⟩
      · exact .inr e
  · simp only at hu ⊢
    rw [hs]
    rcases (hg j u).1 hu with a | ⟨a, b⟩
    · exact h.fr j u hj' a
    · rw [a, b, (fin_from_to d hx.d5 n hx.n7 i hi t (by omega)).1]; exact ht
end Go.Proofs.Yticcoacoepajpaa.V
namespace Go.Proofs.Yticcoacoepajpaa.V
open Go Go.RowKit
set_option linter.unusedVariables false
set_option linter.unusedSimpArgs false

theorem fin_pred : ∀ d < 4, ∀ n < 7, ∀ i < n, ∀ k < 7, ∀ t < 11, fromN d n (modI ((i : Int) - (k : Nat)) n) t = modI ((i : Int) - ((k + 1 : Nat) : Int)) n := by decide +kernel
theorem fin_self : ∀ n : Nat, n < 7 → ∀ i : Nat, i < n → modI ((i : Int) - ((0 : Nat) : Int)) n = i ∧ modI ((i : Int) - (n : Nat)) n = i := by decide +kernel
/-- Nobody has used more than the one ahead has sent. -/
theorem PlI.ahead {d n : Nat} {x : Nat → List Int} (hx : TmOk d n x) {P : Pl} (h : PlI d n x P) (h4 : d ≠ 4) {j : Nat} (hj : j < n) : (P.ss j).taken ≤ (P.ss (fromN d n j 0)).sent := by
  by_cases e : (P.ss j).taken = 0
  · omega
  · have h1 := h.fr j ((P.ss j).taken - 1) hj (.inl (by omega))
    have e2 : fromN d n j ((P.ss j).taken - 1) = fromN d n j 0 := by unfold fromN; rw [if_neg h4, if_neg h4]
    rw [e2] at h1
    omega
theorem PlI.chain {d n : Nat} {x : Nat → List Int} (hx : TmOk d n x) {P : Pl} (h : PlI d n x P) (h4 : d ≠ 4) {i : Nat} (hi : i < n) : ∀ k, k < 7 → (P.ss i).taken ≤ (P.ss (modI ((i : Int) - ((k + 1 : Nat) : Int)) n)).sent + k
  | 0, _ => by
    have h1 := h.ahead hx h4 hi
    have h2 := fin_pred d (by have := hx.d5; omega) n hx.n7 i hi 0 (by omega) 0 (by omega)
    rw [(fin_self n hx.n7 i hi).1] at h2
    rw [← h2]
    omega
  | k + 1, hk => by
    have h0 := h.chain hx h4 hi k (by omega)
    have hq : modI ((i : Int) - ((k + 1 : Nat) : Int)) n < n := modI_lt hx.n1 _
    have h1 := h.can h4 _ hq
    have h2 := h.ahead hx h4 hq
    rw [fin_pred d (by have := hx.d5; omega) n hx.n7 i hi (k + 1) (by omega) 0 (by omega)] at h2
    omega
theorem PlI.room {d n : Nat} {x : Nat → List Int} (hx : TmOk d n x) {P : Pl} (h : PlI d n x P) (h4 : d ≠ 4) {i : Nat} (hi : i < n) : (P.ss i).taken ≤ (P.ss i).sent + (n - 1) := by
  have h1 := hx.n1
  have h7 := hx.n7
  have h2 := h.chain hx h4 hi (n - 1) (by omega)
  rw [show n - 1 + 1 = n by omega, (fin_self n hx.n7 i hi).2] at h2
  exact h2
/-- What is sent is what is known. -/
theorem PlI.note {d n : Nat} {x : Nat → List Int} (hx : TmOk d n x) {P : Pl} (h : PlI d n x P) {i : Nat} (hi : i < n) (hc : canM d n (P.ss i) = true) : noteM d n i (P.ss i) = ntI d n x i (P.ss i).sent ∧ (P.ss i).sent < notN d n ∧ (d ≠ 4 → (P.ss i).sent ≤ (P.ss i).taken) := by
  have hs := (h.st i hi).1
  unfold canM at hc
  simp only [Bool.not_eq_true', Bool.or_eq_false_iff, Bool.and_eq_false_iff, decide_eq_false_iff_not] at hc
  have h1 : (P.ss i).sent < notN d n := by have := hs.sent; omega
  have h2 : d ≠ 4 → (P.ss i).sent ≤ (P.ss i).taken := fun h4 => by rcases hc.2 with a | a <;> omega
  refine ⟨?_, h1, h2⟩
  unfold noteM ntI
  congr 1
  by_cases h4 : d = 4
  · rw [if_pos h4, hs.own]
    cases (P.ss i).sent with
    | zero => rfl
    | succ t => unfold dat; rw [if_pos h4]
  · rw [if_neg h4, hs.parts]
    have h5 := h.room hx h4 hi
    have h6 := h2 h4
    have h7 := parA_send hx h4 hi (P.ss i).sent h1 ((P.ss i).taken - (P.ss i).sent) (by omega)
    rw [show (P.ss i).sent + ((P.ss i).taken - (P.ss i).sent) = (P.ss i).taken by omega] at h7
    exact h7
theorem PlI.next {d n : Nat} {x : Nat → List Int} (hx : TmOk d n x) {P : Pl} (h : PlI d n x P) {i : Nat} (hi : i < n) (hc : canM d n (P.ss i) = true) : PlI d n x ⟨updN P.ss i (nextM d n (P.ss i)), P.ws ++ [noteM d n i (P.ss i)]⟩ := by
  obtain ⟨e1, e2, e3⟩ := h.note hx hi hc
  have en : nextM d n (P.ss i) = { P.ss i with sent := (P.ss i).sent + 1 } := by unfold nextM; rw [if_pos hc]
  have hs := h.st i hi
  rw [e1, en]
  have hsn : ∀ j, (P.ss j).sent ≤ (updN P.ss i { P.ss i with sent := (P.ss i).sent + 1 } j).sent := fun j => by
    by_cases e : j = i
    · rw [e, updN_same]; exact Nat.le_succ _
    · rw [updN_other _ _ e]; exact Nat.le_refl _
  have hg : ∀ j u, gotM (updN P.ss i { P.ss i with sent := (P.ss i).sent + 1 } j) u ↔ gotM (P.ss j) u := fun j u => by
    by_cases e : j = i
    · rw [e, updN_same]; exact Iff.rfl
    · rw [updN_other _ _ e]
  refine ⟨fun j hj => ?_, fun h4 j hj => ?_, fun y hy => ?_, fun j t hj ht => ?_, fun j u hj hu => ?_⟩
  · simp only
    by_cases e : j = i
    · subst e
      rw [updN_same]
      exact ⟨⟨hs.1.own, hs.1.parts, hs.1.early, e2, hs.1.taken⟩, hs.2⟩
    · rw [updN_other _ _ e]; exact h.st j hj
  · simp only
    by_cases e : j = i
    · subst e
      rw [updN_same]
      have := e3 h4
      show (P.ss j).sent + 1 ≤ (P.ss j).taken + 1
      omega
    · rw [updN_other _ _ e]; exact h.can h4 j hj
  · rcases List.mem_append.1 hy with a | a
    · obtain ⟨i', t', a1, a2, a3⟩ := h.ws y a
      exact ⟨i', t', a1, Nat.lt_of_lt_of_le a2 (hsn i'), a3⟩
    · refine ⟨i, (P.ss i).sent, hi, ?_, by simpa using a⟩
      simp only
      rw [updN_same]
      exact Nat.lt_succ_self _
  · simp only at ht ⊢
    rw [hg]
    by_cases e : j = i
    · subst e
      rw [updN_same] at ht
      by_cases e' : t = (P.ss j).sent
      · right; rw [e']; simp
      · rcases h.dl j t hj (by have : t < (P.ss j).sent + 1 := ht; omega) with a | a
        · exact .inl a
        · exact .inr (List.mem_append.2 (.inl a))
    · rw [updN_other _ _ e] at ht
      rcases h.dl j t hj ht with a | a
      · exact .inl a
      · exact .inr (List.mem_append.2 (.inl a))
  · simp only at hu ⊢
    exact Nat.lt_of_lt_of_le (h.fr j u hj ((hg j u).1 hu)) (hsn _)
/-- Sums. -/
def sumN : Nat → (Nat → Nat) → Nat
  | 0, _ => 0
  | k + 1, f => sumN k f + f k
theorem sumN_same : ∀ (k : Nat) (f g : Nat → Nat), (∀ i, i < k → f i = g i) → sumN k f = sumN k g
  | 0, f, g, _ => rfl
  | k + 1, f, g, h => by unfold sumN; rw [sumN_same k f g (fun i hi => h i (by omega)), h k (by omega)]
theorem sumN_one : ∀ (k : Nat) (f g : Nat → Nat) (i : Nat), i < k → g i + 1 = f i → (∀ j, j < k → j ≠ i → f j = g j) → sumN k g + 1 = sumN k f
  | 0, f, g, i, hi, _, _ => by omega
  | k + 1, f, g, i, hi, e, h => by
    unfold sumN
    by_cases e' : i = k
    · rw [sumN_same k f g (fun j hj => h j (by omega) (by omega))]
      rw [e'] at e
      omega
    · have := sumN_one k f g i (by omega) e (fun j hj hne => h j (by omega) hne)
      rw [h k (by omega) (Ne.symm e')]
      omega
theorem sumN_zero : ∀ (k : Nat) (f : Nat → Nat), sumN k f = 0 → ∀ i, i < k → f i = 0
  | 0, f, _, i, hi => by omega
  | k + 1, f, h, i, hi => by
    unfold sumN at h
    by_cases e : i = k
    · rw [e]; omega
    · exact sumN_zero k f (by omega) i (by omega)
theorem sumN_const (c : Nat) : ∀ k, sumN k (fun _ => c) = k * c
  | 0 => by simp [sumN]
  | k + 1 => by unfold sumN; rw [sumN_const c k, Nat.succ_mul]
/-- How much is left to be done. -/
def leftM (d n : Nat) (P : Pl) : Nat := sumN n (fun i => notN d n - (P.ss i).sent) + P.ws.length
/-- Where nobody can send and nothing is on its way all is sent. -/
theorem PlI.ends {d n : Nat} {x : Nat → List Int} (hx : TmOk d n x) {P : Pl} (h : PlI d n x P) (hw : P.ws = []) (hc : ∀ i, i < n → canM d n (P.ss i) = false) : ∀ i, i < n → (P.ss i).sent = notN d n := by
  intro i hi
  have h1 := hx.n1
  have h7 := hx.n7
  have h11 := notN_small (d := d) hx.n7
  by_cases h4 : d = 4
  · have hci := hc i hi
    unfold canM at hci
    simpa [h4] using hci
  · by_cases e : (P.ss i).sent = notN d n
    · exact e
    · exfalso
      have hlt : (P.ss i).sent < notN d n := by have := (h.st i hi).1.sent; omega
      -- what was sent to j was used by j
      have hall : ∀ j, j < n → (P.ss (fromN d n j 0)).sent ≤ (P.ss j).taken := fun j hj => by
        by_cases e1 : (P.ss j).taken < (P.ss (fromN d n j 0)).sent
        · exfalso
          have hq : fromN d n j 0 < n := fromN_lt hx.n1
          have hb : (P.ss j).taken < notN d n := Nat.lt_of_lt_of_le e1 (h.st _ hq).1.sent
          have e3 : fromN d n j 0 = fromN d n j (P.ss j).taken := by unfold fromN; rw [if_neg h4, if_neg h4]
          rcases h.dl _ _ hq e1 with a | a
          · have e2 : toN d n (fromN d n j 0) (P.ss j).taken = j := by rw [e3]; exact (fin_from_to d hx.d5 n hx.n7 j hj _ (by omega)).2
            rw [e2] at a
            rcases a with a | ⟨xs, a⟩
            · omega
            · rw [(h.st j hj).2] at a; cases a
          · rw [hw] at a; simp at a
        · omega
      have step : ∀ j, j < n → (P.ss j).sent < notN d n → (P.ss (fromN d n j 0)).sent < (P.ss j).sent := fun j hj hs => by
        have hcj := hc j hj
        unfold canM at hcj
        simp only [Bool.not_eq_false', Bool.or_eq_true, Bool.and_eq_true, decide_eq_true_eq] at hcj
        have := hall j hj
        omega
      have key : ∀ k, k < 7 → (P.ss (modI ((i : Int) - (k : Nat)) n)).sent + k ≤ (P.ss i).sent := fun k => by
        induction k with
        | zero => intro _; rw [(fin_self n hx.n7 i hi).1]; omega
        | succ k ih =>
          intro hk
          have h8 := ih (by omega)
          have h9 := step _ (modI_lt hx.n1 ((i : Int) - (k : Nat))) (by omega)
          rw [fin_pred d (by have := hx.d5; omega) n hx.n7 i hi k (by omega) 0 (by omega)] at h9
          omega
      have h9 := key n h7
      rw [(fin_self n hx.n7 i hi).2] at h9
      omega
/-- Where nothing is left all is used. -/
theorem PlI.done {d n : Nat} {x : Nat → List Int} (hx : TmOk d n x) {P : Pl} (h : PlI d n x P) (hw : P.ws = []) (hs : ∀ i, i < n → (P.ss i).sent = notN d n) : ∀ j, j < n → (P.ss j).taken = notN d n ∧ (P.ss j).parts = parA d n x j (notN d n) := by
  intro j hj
  have h11 := notN_small (d := d) hx.n7
  have ht : (P.ss j).taken = notN d n := by
    by_cases e : (P.ss j).taken = notN d n
    · exact e
    · exfalso
      have hlt : (P.ss j).taken < notN d n := by have := (h.st j hj).1.taken; omega
      have hq : fromN d n j (P.ss j).taken < n := fromN_lt hx.n1
      rcases h.dl _ (P.ss j).taken hq (by rw [hs _ hq]; exact hlt) with a | a
      · rw [(fin_from_to d hx.d5 n hx.n7 j hj _ (by omega)).2] at a
        rcases a with a | ⟨xs, a⟩
        · omega
        · rw [(h.st j hj).2] at a; cases a
      · rw [hw] at a; simp at a
  exact ⟨ht, by rw [(h.st j hj).1.parts, ht]⟩
end Go.Proofs.Yticcoacoepajpaa.V
namespace Go.Proofs.Yticcoacoepajpaa.V
open Go Go.RowKit
set_option linter.unusedVariables false
set_option linter.unusedSimpArgs false

theorem play_app (d n : Nat) : ∀ (a : List Stp) (P : Pl) (b : List Stp), playM d n P (a ++ b) = ((playM d n (playM d n P a).1 b).1, (playM d n P a).2 ++ (playM d n (playM d n P a).1 b).2)
  | [], P, b => rfl
  | q :: a, P, b => by
    show ((playM d n (stepM d n P q).1 (a ++ b)).1, (stepM d n P q).2 :: (playM d n (stepM d n P q).1 (a ++ b)).2) = ((playM d n (playM d n (stepM d n P q).1 a).1 b).1, ((stepM d n P q).2 :: (playM d n (stepM d n P q).1 a).2) ++ (playM d n (playM d n (stepM d n P q).1 a).1 b).2)
    rw [play_app d n a (stepM d n P q).1 b]
    rfl
theorem play_len (d n : Nat) : ∀ (a : List Stp) (P : Pl), (playM d n P a).2.length = a.length
  | [], P => rfl
  | q :: a, P => by unfold playM; simp [play_len d n a]
def stN (m : Nat) : Stp := ⟨1, m, 0, ntZ⟩
def stT (v : Int) : Stp := ⟨3, 0, v, ntZ⟩
def stB (v : Int) : Stp := ⟨2, 0, v, ntZ⟩
def stR (m : Nat) : Stp := ⟨5, m, 0, ntZ⟩
theorem in_nat {n m : Nat} (h : m < n) : inN n (m : Int) = true := by unfold inN; simp; omega
theorem step_n {d n m : Nat} (hm : m < n) (P : Pl) : stepM d n P (stN m) = if canM d n (P.ss m) = true then (⟨updN P.ss m (nextM d n (P.ss m)), P.ws ++ [noteM d n m (P.ss m)]⟩, ⟨true, noteM d n m (P.ss m), 0, []⟩) else (P, ⟨false, ntZ, 0, []⟩) := by
  unfold stepM stN
  simp only [Int.toNat_natCast]
  rw [if_pos ⟨by first | rfl | trivial, in_nat hm⟩]
theorem step_r {d n m : Nat} (hm : m < n) (P : Pl) : stepM d n P (stR m) = (P, ⟨false, ntZ, resE d n (P.ss m), resL d n m (P.ss m)⟩) := by
  unfold stepM stR
  simp only [Int.toNat_natCast]
  rw [if_neg (by simp), if_neg (by simp), if_neg (by simp), if_pos ⟨by simp, in_nat hm⟩]
theorem left_next {d n m : Nat} {P : Pl} (hm : m < n) (hs : (P.ss m).sent < notN d n) (hc : canM d n (P.ss m) = true) (y : Nt) : leftM d n ⟨updN P.ss m (nextM d n (P.ss m)), P.ws ++ [y]⟩ = leftM d n P := by
  unfold leftM
  simp only [List.length_append, List.length_cons, List.length_nil]
  have := sumN_one n (fun i => notN d n - (P.ss i).sent) (fun i => notN d n - (updN P.ss m (nextM d n (P.ss m)) i).sent) m hm (by
    try simp only
    rw [updN_same]
    unfold nextM
    rw [if_pos hc]
    show notN d n - ((P.ss m).sent + 1) + 1 = _
    omega) (fun j hj hne => by (try simp only); rw [updN_other _ _ hne])
  omega
theorem PlI.nexts {d n : Nat} {x : Nat → List Int} (hx : TmOk d n x) : ∀ (ms : List Nat), (∀ m ∈ ms, m < n) → ∀ (P : Pl), PlI d n x P → PlI d n x (playM d n P (ms.map stN)).1 ∧ leftM d n (playM d n P (ms.map stN)).1 = leftM d n P ∧ ((playM d n P (ms.map stN)).1.ws = [] → (playM d n P (ms.map stN)).1 = P ∧ ∀ m ∈ ms, canM d n (P.ss m) = false)
  | [], _, P, h => ⟨h, rfl, fun _ => ⟨rfl, fun m hm => by simp at hm⟩⟩
  | m :: ms, hl, P, h => by
    have hm : m < n := hl m (by simp)
    show PlI d n x (playM d n (stepM d n P (stN m)).1 (ms.map stN)).1 ∧ leftM d n (playM d n (stepM d n P (stN m)).1 (ms.map stN)).1 = leftM d n P ∧ ((playM d n (stepM d n P (stN m)).1 (ms.map stN)).1.ws = [] → (playM d n (stepM d n P (stN m)).1 (ms.map stN)).1 = P ∧ ∀ m' ∈ m :: ms, canM d n (P.ss m') = false)
    rw [step_n hm]
    cases hc : canM d n (P.ss m) with
    | false =>
      rw [if_neg (by simp)]
      obtain ⟨a, b, c⟩ := PlI.nexts hx ms (fun m' h' => hl m' (by simp [h'])) P h
      refine ⟨a, b, fun e => ⟨(c e).1, fun m' hm' => ?_⟩⟩
      rcases List.mem_cons.1 hm' with e' | e'
      · rw [e']; exact hc
      · exact (c e).2 m' e'
    | true =>
      rw [if_pos rfl]
      obtain ⟨a, b, c⟩ := PlI.nexts hx ms (fun m' h' => hl m' (by simp [h'])) _ (h.next hx hm hc)
      refine ⟨a, b.trans (left_next hm (h.note hx hm hc).2.1 hc _), fun e => ?_⟩
      have h9 := (c e).1
      try simp only at h9
      rw [h9] at e
      simp at e
theorem nth_mem {ws : List Nt} (hw : ws ≠ []) (v : Int) : nthW ws (modI v ws.length) ∈ ws ∧ ∀ y ∈ ws, y = nthW ws (modI v ws.length) ∨ y ∈ ws.eraseIdx (modI v ws.length) := by
  have hl : 0 < ws.length := List.length_pos_iff.2 hw
  have hk := modI_lt hl v
  have e : nthW ws (modI v ws.length) = ws[modI v ws.length] := by unfold nthW; simp [hk]
  refine ⟨by rw [e]; exact List.getElem_mem _, fun y hy => ?_⟩
  obtain ⟨j, hj, rfl⟩ := List.getElem_of_mem hy
  by_cases e' : j = modI v ws.length
  · left; rw [e]; subst e'; rfl
  · right
    exact List.mem_eraseIdx_iff_getElem.2 ⟨j, hj, e', rfl⟩
theorem PlI.come {d n : Nat} {x : Nat → List Int} (hx : TmOk d n x) {P : Pl} (h : PlI d n x P) (v : Int) (tw : Bool) : PlI d n x (stepM d n P (if tw = true then stT v else stB v)).1 ∧ (P.ws = [] → (stepM d n P (if tw = true then stT v else stB v)).1 = P) ∧ (P.ws ≠ [] → leftM d n (stepM d n P (if tw = true then stT v else stB v)).1 + (if tw = true then 0 else 1) = leftM d n P ∧ (tw = true → (stepM d n P (if tw = true then stT v else stB v)).1.ws = P.ws)) ∧ ∀ j, ((stepM d n P (if tw = true then stT v else stB v)).1.ss j).sent = (P.ss j).sent := by
  by_cases hw : P.ws = []
  · have e : (stepM d n P (if tw = true then stT v else stB v)).1 = P := by
      cases tw <;> simp [stepM, stT, stB, hw]
    rw [e]
    exact ⟨h, fun _ => rfl, fun h' => absurd hw h', fun _ => rfl⟩
  · obtain ⟨hn1, hn2⟩ := nth_mem hw v
    obtain ⟨i, t, hi, ht, e⟩ := h.ws _ hn1
    have es : stepM d n P (if tw = true then stT v else stB v) = giveM d n ⟨P.ss, if tw = true then P.ws else P.ws.eraseIdx (modI v P.ws.length)⟩ (toN d n i t) (ntI d n x i t) := by
      have e2 : (ntI d n x i t).to.toNat = toN d n i t := by simp [ntI]
      cases tw
      · simp only [Bool.false_eq_true, if_false]
        unfold stepM stB
        try simp only
        rw [if_neg (by simp), if_pos ⟨.inl (by first | rfl | trivial), hw⟩, e, e2]
        rfl
      · simp only [if_true]
        unfold stepM stT
        try simp only
        rw [if_neg (by simp), if_pos ⟨.inr (by first | rfl | trivial), hw⟩, e, e2]
        rfl
    have hg := h.give hx hi ht (ws := if tw = true then P.ws else P.ws.eraseIdx (modI v P.ws.length)) (fun y hy => by
      cases tw
      · exact List.mem_of_mem_eraseIdx hy
      · exact hy) (fun y hy => by
      cases tw
      · rw [← e]; exact hn2 y hy
      · exact .inr hy)
    rw [es]
    refine ⟨hg.1, fun h' => absurd h' hw, fun _ => ?_, hg.2⟩
    have hsum : sumN n (fun j => notN d n - ((giveM d n ⟨P.ss, if tw = true then P.ws else P.ws.eraseIdx (modI v P.ws.length)⟩ (toN d n i t) (ntI d n x i t)).1.ss j).sent) = sumN n (fun j => notN d n - (P.ss j).sent) := sumN_same _ _ _ (fun j hj => by rw [hg.2 j])
    unfold leftM
    rw [hsum]
    have hl : 0 < P.ws.length := List.length_pos_iff.2 hw
    cases tw
    · refine ⟨?_, fun h' => by simp at h'⟩
      show sumN n _ + (P.ws.eraseIdx (modI v P.ws.length)).length + 1 = _
      rw [List.length_eraseIdx_of_lt (modI_lt hl v)]
      omega
    · exact ⟨rfl, fun _ => rfl⟩
/-- A round of the play: all send, one note may come twice, one comes. -/
def rdL (n : Nat) (tw : Bool) (v : Int) : List Stp := (List.range n).map stN ++ (if tw = true then [stT v] else []) ++ [stB v]
theorem PlI.round {d n : Nat} {x : Nat → List Int} (hx : TmOk d n x) {P : Pl} (h : PlI d n x P) (tw : Bool) (v : Int) : PlI d n x (playM d n P (rdL n tw v)).1 ∧ leftM d n (playM d n P (rdL n tw v)).1 ≤ leftM d n P - 1 := by
  obtain ⟨a1, a2, a3⟩ := PlI.nexts hx (List.range n) (fun m hm => List.mem_range.1 hm) P h
  have e : (playM d n P (rdL n tw v)).1 = (stepM d n (playM d n (playM d n P ((List.range n).map stN)).1 (if tw = true then [stT v] else [])).1 (stB v)).1 := by
    unfold rdL
    rw [play_app, play_app]
    rfl
  rw [e]
  obtain ⟨P1, hP1⟩ : ∃ P1, P1 = (playM d n P ((List.range n).map stN)).1 := ⟨_, rfl⟩
  rw [← hP1] at a1 a2 a3 ⊢
  have b : PlI d n x (playM d n P1 (if tw = true then [stT v] else [])).1 ∧ leftM d n (playM d n P1 (if tw = true then [stT v] else [])).1 = leftM d n P1 ∧ ((playM d n P1 (if tw = true then [stT v] else [])).1.ws = [] → P1.ws = []) := by
    cases tw
    · exact ⟨a1, rfl, fun h' => h'⟩
    · obtain ⟨c1, c2, c3, _⟩ := a1.come hx v true
      simp only [if_true] at c1 c2 c3 ⊢
      show PlI d n x (stepM d n P1 (stT v)).1 ∧ leftM d n (stepM d n P1 (stT v)).1 = leftM d n P1 ∧ ((stepM d n P1 (stT v)).1.ws = [] → P1.ws = [])
      by_cases hw : P1.ws = []
      · rw [c2 hw]; exact ⟨a1, rfl, fun h' => h'⟩
      · exact ⟨c1, (c3 hw).1, fun h' => by rw [← (c3 hw).2 trivial]; exact h'⟩
  obtain ⟨P2, hP2⟩ : ∃ P2, P2 = (playM d n P1 (if tw = true then [stT v] else [])).1 := ⟨_, rfl⟩
  rw [← hP2] at b ⊢
  obtain ⟨b1, b2, b3⟩ := b
  obtain ⟨c1, c2, c3, _⟩ := b1.come hx v false
  simp only [Bool.false_eq_true, if_false] at c1 c2 c3
  refine ⟨c1, ?_⟩
  by_cases hw : P2.ws = []
  · rw [c2 hw]
    obtain ⟨d1, d2⟩ := a3 (b3 hw)
    rw [d1] at a1 b2 b3
    have hs := h.ends hx (b3 hw) (fun i hi => d2 i (List.mem_range.2 hi))
    have hz : leftM d n P = 0 := by
      unfold leftM
      rw [b3 hw, sumN_same n _ (fun _ => 0) (fun i hi => by (try simp only); rw [hs i hi]; omega), sumN_const]
      simp
    omega
  · have := (c3 hw).1
    omega
/-- Rounds. -/
def rdsL (n : Nat) (tw : Nat → Bool) (v : Nat → Int) (k : Nat) : List Stp := (List.range k).flatMap fun i => rdL n (tw i) (v i)
theorem rds_succ (n : Nat) (tw : Nat → Bool) (v : Nat → Int) (k : Nat) : rdsL n tw v (k + 1) = rdsL n tw v k ++ rdL n (tw k) (v k) := by
  unfold rdsL
  rw [List.range_succ, List.flatMap_append]
  simp
theorem PlI.rounds {d n : Nat} {x : Nat → List Int} (hx : TmOk d n x) {P : Pl} (h : PlI d n x P) (tw : Nat → Bool) (v : Nat → Int) : ∀ k, PlI d n x (playM d n P (rdsL n tw v k)).1 ∧ leftM d n (playM d n P (rdsL n tw v k)).1 ≤ leftM d n P - k
  | 0 => ⟨h, by show leftM d n P ≤ leftM d n P - 0; omega⟩
  | k + 1 => by
    obtain ⟨a, b⟩ := PlI.rounds hx h tw v k
    rw [rds_succ, play_app]
    obtain ⟨c, e⟩ := a.round hx (tw k) (v k)
    exact ⟨c, by (try simp only); omega⟩
def begS (d n : Nat) (x : Nat → List Int) : Pl := ⟨fun i => begM d n i (x i), []⟩
theorem pli_beg (d n : Nat) (x : Nat → List Int) : PlI d n x (begS d n x) := pli_start
theorem left_start (d n : Nat) (x : Nat → List Int) : leftM d n (begS d n x) = n * notN d n := by
  unfold leftM begS
  simp only [begM, List.length_nil, Nat.sub_zero]
  rw [sumN_const]
  omega
/-- Behind so many rounds all is done. -/
theorem all_done {d n : Nat} {x : Nat → List Int} (hx : TmOk d n x) (tw : Nat → Bool) (v : Nat → Int) {k : Nat} (hk : n * notN d n ≤ k) : PlI d n x (playM d n (begS d n x) (rdsL n tw v k)).1 ∧ ∀ j, j < n → ((playM d n (begS d n x) (rdsL n tw v k)).1.ss j).sent = notN d n ∧ ((playM d n (begS d n x) (rdsL n tw v k)).1.ss j).taken = notN d n ∧ ((playM d n (begS d n x) (rdsL n tw v k)).1.ss j).parts = parA d n x j (notN d n) := by
  obtain ⟨a, b⟩ := PlI.rounds hx (pli_beg d n x) tw v k
  have hls := left_start d n x
  have hz : leftM d n (playM d n (begS d n x) (rdsL n tw v k)).1 = 0 := by omega
  unfold leftM at hz
  have hw : (playM d n (begS d n x) (rdsL n tw v k)).1.ws = [] := List.length_eq_zero_iff.1 (by omega)
  have hs : ∀ i, i < n → ((playM d n (begS d n x) (rdsL n tw v k)).1.ss i).sent = notN d n := fun i hi => by
    have h1 := sumN_zero n (fun i => notN d n - ((playM d n (begS d n x) (rdsL n tw v k)).1.ss i).sent) (by omega) i hi
    have h2 := (a.st i hi).1.sent
    try simp only at h1
    omega
  exact ⟨a, fun j hj => ⟨hs j hj, a.done hx hw hs j hj⟩⟩
/-- What a member has in the end. -/
def resW (d n : Nat) (x : Nat → List Int) (m : Nat) : List Int := if d = 2 then prt (parA d n x m (notN d n)) m else (parA d n x m (notN d n)).flatten
theorem play_res {d n : Nat} {x : Nat → List Int} : ∀ (ms : List Nat) (P : Pl), (∀ m ∈ ms, m < n ∧ (P.ss m).taken = notN d n ∧ (P.ss m).parts = parA d n x m (notN d n)) → playM d n P (ms.map stR) = (P, ms.map fun m => ⟨false, ntZ, 0, resW d n x m⟩)
  | [], P, _ => rfl
  | m :: ms, P, h => by
    obtain ⟨h1, h2, h3⟩ := h m (by simp)
    have e : stepM d n P (stR m) = (P, ⟨false, ntZ, 0, resW d n x m⟩) := by
      rw [step_r h1]
      unfold resE resL resW
      rw [if_neg (by omega), if_neg (by omega), h3]
    show playM d n P (stR m :: ms.map stR) = _
    unfold playM
    rw [e]
    try simp only
    rw [play_res ms P (fun m' h' => h m' (by simp [h']))]
    rfl
/-- The whole play. -/
def endL (n : Nat) (tw : Nat → Bool) (v : Nat → Int) (k : Nat) : List Stp := rdsL n tw v k ++ (List.range n).map stR
theorem play_end {d n : Nat} {x : Nat → List Int} (hx : TmOk d n x) (tw : Nat → Bool) (v : Nat → Int) {k : Nat} (hk : n * notN d n ≤ k) : (playM d n (begS d n x) (endL n tw v k)).2 = (playM d n (begS d n x) (rdsL n tw v k)).2 ++ (List.range n).map fun m => ⟨false, ntZ, 0, resW d n x m⟩ := by
  unfold endL
  rw [play_app, play_res (x := x) (List.range n) _ (fun m hm => ⟨List.mem_range.1 hm, ((all_done hx tw v hk).2 m (List.mem_range.1 hm)).2⟩)]
/-- How many words a member has sent. -/
def cntM (m : Nat) : List Stp → List Sn → Nat
  | p :: l, q :: r => (if p.act = 1 ∧ q.some = true ∧ p.mem = (m : Int) then q.nt.data.length else 0) + cntM m l r
  | _, _ => 0
theorem cnt_app (m : Nat) : ∀ (a : List Stp) (a' : List Sn) (b : List Stp) (b' : List Sn), a.length = a'.length → cntM m (a ++ b) (a' ++ b') = cntM m a a' + cntM m b b'
  | [], [], b, b', _ => by simp [cntM]
  | [], y :: a', b, b', h => by simp at h
  | p :: a, [], b, b', h => by simp at h
  | p :: a, q :: a', b, b', h => by
    simp only [List.cons_append, cntM]
    rw [cnt_app m a a' b b' (by simpa using h)]
    omega
def datS (d n : Nat) (x : Nat → List Int) (m k : Nat) : Nat := sumN k fun t => (dat d n x t m).length
theorem cnt_nexts {d n : Nat} {x : Nat → List Int} (hx : TmOk d n x) (m : Nat) : ∀ (ms : List Nat), (∀ m ∈ ms, m < n) → ∀ (P : Pl), PlI d n x P → cntM m (ms.map stN) (playM d n P (ms.map stN)).2 + datS d n x m (P.ss m).sent = datS d n x m ((playM d n P (ms.map stN)).1.ss m).sent
  | [], _, P, h => by simp [cntM, playM]
  | i :: ms, hl, P, h => by
    have hi : i < n := hl i (by simp)
    show cntM m (stN i :: ms.map stN) ((stepM d n P (stN i)).2 :: (playM d n (stepM d n P (stN i)).1 (ms.map stN)).2) + _ = datS d n x m ((playM d n (stepM d n P (stN i)).1 (ms.map stN)).1.ss m).sent
    rw [step_n hi]
    unfold cntM
    cases hc : canM d n (P.ss i) with
    | false =>
      rw [if_neg (by simp)]
      have h9 := cnt_nexts hx m ms (fun m' h' => hl m' (by simp [h'])) P h
      rw [if_neg (by simp), Nat.zero_add]
      exact h9
    | true =>
      rw [if_pos rfl]
      have h9 := cnt_nexts hx m ms (fun m' h' => hl m' (by simp [h'])) _ (h.next hx hi hc)
      rw [← h9]
      try simp only
      by_cases e : m = i
      · subst e
        rw [if_pos ⟨rfl, trivial, rfl⟩, updN_same]
        have e2 : (nextM d n (P.ss m)).sent = (P.ss m).sent + 1 := by unfold nextM; rw [if_pos hc]
        rw [e2, (h.note hx hi hc).1]
        unfold datS
        conv => rhs; rhs; unfold sumN
        simp only [ntI]
        omega
      · rw [if_neg (fun h' => e (by have := h'.2.2; simp only [stN] at this; omega)), updN_other _ _ e]
        omega
theorem cnt_round {d n : Nat} {x : Nat → List Int} (hx : TmOk d n x) (m : Nat) {P : Pl} (h : PlI d n x P) (tw : Bool) (v : Int) : cntM m (rdL n tw v) (playM d n P (rdL n tw v)).2 + datS d n x m (P.ss m).sent = datS d n x m ((playM d n P (rdL n tw v)).1.ss m).sent := by
  obtain ⟨a1, a2, a3⟩ := PlI.nexts hx (List.range n) (fun m hm => List.mem_range.1 hm) P h
  have hc := cnt_nexts hx m (List.range n) (fun m hm => List.mem_range.1 hm) P h
  unfold rdL
  rw [List.append_assoc, play_app]
  try simp only
  rw [cnt_app _ _ _ _ _ (play_len _ _ _ _).symm]
  obtain ⟨P1, hP1⟩ : ∃ P1, P1 = (playM d n P ((List.range n).map stN)).1 := ⟨_, rfl⟩
  rw [← hP1] at a1 hc ⊢
  cases tw
  · simp only [Bool.false_eq_true, if_false, List.nil_append]
    have c4 := (a1.come hx v false).2.2.2 m
    simp only [Bool.false_eq_true, if_false] at c4
    have e0 : cntM m [stB v] (playM d n P1 [stB v]).2 = 0 := by simp [playM, cntM, stB]
    have e1 : (playM d n P1 [stB v]).1 = (stepM d n P1 (stB v)).1 := rfl
    rw [e0, e1, c4]
    omega
  · simp only [if_true, List.singleton_append]
    have c0 := a1.come hx v true
    simp only [if_true] at c0
    have c4 := c0.2.2.2 m
    have c5 := (c0.1.come hx v false).2.2.2 m
    simp only [Bool.false_eq_true, if_false] at c5
    have e0 : cntM m [stT v, stB v] (playM d n P1 [stT v, stB v]).2 = 0 := by simp [playM, cntM, stB, stT]
    have e1 : (playM d n P1 [stT v, stB v]).1 = (stepM d n (stepM d n P1 (stT v)).1 (stB v)).1 := rfl
    rw [e0, e1, c5, c4]
    omega
theorem cnt_rounds {d n : Nat} {x : Nat → List Int} (hx : TmOk d n x) (m : Nat) (tw : Nat → Bool) (v : Nat → Int) : ∀ k, cntM m (rdsL n tw v k) (playM d n (begS d n x) (rdsL n tw v k)).2 = datS d n x m ((playM d n (begS d n x) (rdsL n tw v k)).1.ss m).sent
  | 0 => by simp [rdsL, cntM, playM, datS, begS, begM, sumN]
  | k + 1 => by
    have h0 := cnt_rounds hx m tw v k
    have h1 := cnt_round hx m (PlI.rounds hx (pli_beg d n x) tw v k).1 (tw k) (v k)
    rw [rds_succ, play_app]
    try simp only
    rw [cnt_app _ _ _ _ _ (play_len _ _ _ _).symm]
    omega
theorem cnt_res (m : Nat) : ∀ (ms : List Nat) (l : List Sn), cntM m (ms.map stR) l = 0
  | [], l => by cases l <;> rfl
  | i :: ms, [] => rfl
  | i :: ms, q :: l => by
    show cntM m (stR i :: ms.map stR) (q :: l) = 0
    unfold cntM
    rw [if_neg (by simp [stR]), cnt_res m ms l]
theorem cnt_end {d n : Nat} {x : Nat → List Int} (hx : TmOk d n x) {m : Nat} (hm : m < n) (tw : Nat → Bool) (v : Nat → Int) {k : Nat} (hk : n * notN d n ≤ k) : cntM m (endL n tw v k) (playM d n (begS d n x) (endL n tw v k)).2 = datS d n x m (notN d n) := by
  unfold endL
  rw [play_app]
  try simp only
  rw [cnt_app _ _ _ _ _ (play_len _ _ _ _).symm, cnt_res, cnt_rounds hx, ((all_done hx tw v hk).2 m hm).1]
  omega
end Go.Proofs.Yticcoacoepajpaa.V
