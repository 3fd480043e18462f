/-
  A team's play: the mathematics. Contracts: the document's SameMemory and the law's sameWords, of equal lists; leaves of the document. A team's notes, known ahead of any play: the mathematics. A team's notes: what holds all the time. A team's notes: each step, and that nobody waits for ever. The law's picks. Contract: the document's Piece.
-/
import Derived.Test.YticcoacoepajpaaPK21
import Derived.BigQuiet
namespace Go.Proofs.Yticcoacoepajpaa.V
open Go Go.RowKit
set_option linter.unusedVariables false
set_option linter.unusedSimpArgs false

def ntZ : Nt := ⟨0, 0, 0, []⟩
def inN (n : Nat) (m : Int) : Bool := decide (0 ≤ m) && decide (m < (n : Int))
/-- Who knows what, and what is on its way. -/
structure Pl where
  ss : Nat → St
  ws : List Nt
def nthW (ws : List Nt) (k : Nat) : Nt := ws[k]?.getD ntZ
/-- A note comes to a member. -/
def giveM (d n : Nat) (P : Pl) (i : Nat) (x : Nt) : Pl × Sn := (⟨updN P.ss i (takeM d n i (P.ss i) x), P.ws⟩, ⟨false, ntZ, takeE d n i (P.ss i) x, []⟩)
/-- A step. -/
def stepM (d n : Nat) (P : Pl) (p : Stp) : Pl × Sn :=
  if p.act = 1 ∧ inN n p.mem = true then
    (if canM d n (P.ss p.mem.toNat) = true then (⟨updN P.ss p.mem.toNat (nextM d n (P.ss p.mem.toNat)), P.ws ++ [noteM d n p.mem.toNat (P.ss p.mem.toNat)]⟩, ⟨true, noteM d n p.mem.toNat (P.ss p.mem.toNat), 0, []⟩) else (P, ⟨false, ntZ, 0, []⟩))
  else if (p.act = 2 ∨ p.act = 3) ∧ P.ws ≠ [] then
    giveM d n ⟨P.ss, if p.act = 2 then P.ws.eraseIdx (modI p.num P.ws.length) else P.ws⟩ (nthW P.ws (modI p.num P.ws.length)).to.toNat (nthW P.ws (modI p.num P.ws.length))
  else if p.act = 4 ∧ inN n p.mem = true then giveM d n P p.mem.toNat p.nt
  else if p.act = 5 ∧ inN n p.mem = true then (P, ⟨false, ntZ, resE d n (P.ss p.mem.toNat), resL d n p.mem.toNat (P.ss p.mem.toNat)⟩)
  else (P, ⟨false, ntZ, 0, []⟩)
def playM (d n : Nat) : Pl → List Stp → Pl × List Sn
  | P, [] => (P, [])
  | P, p :: l => ((playM d n (stepM d n P p).1 l).1, (stepM d n P p).2 :: (playM d n (stepM d n P p).1 l).2)
theorem play_snoc (d n : Nat) : ∀ (l : List Stp) (P : Pl) (p : Stp), playM d n P (l ++ [p]) = ((stepM d n (playM d n P l).1 p).1, (playM d n P l).2 ++ [(stepM d n (playM d n P l).1 p).2])
  | [], P, p => rfl
  | q :: l, P, p => by
    show playM d n P (q :: (l ++ [p])) = _
    unfold playM
    rw [play_snoc d n l (stepM d n P q).1 p]
    rfl
/-- What is wrong with a team. -/
def firstE : List Int → Int
  | [] => 0
  | x :: l => if x ≠ 0 then x else firstE l
def wrongL (d : Int) (xss : List (List Int)) : List Int := (List.range xss.length).map fun i : Nat => wrongM d (xss.length : Int) (i : Int) (xss[i]?.getD []).length
def teamE (d : Int) (xss : List (List Int)) : Int := firstE (wrongL d xss)
def begP (d n : Nat) (xss : List (List Int)) : Pl := ⟨fun i => begM d n i (xss[i]?.getD []), []⟩
theorem firstE_at : ∀ (l : List Int) (k : Nat), (∀ j, j < k → l[j]?.getD 0 = 0) → l[k]?.getD 0 ≠ 0 → firstE l = l[k]?.getD 0
  | [], k, _, h => by simp at h
  | x :: l, 0, _, h => by
    unfold firstE
    have h' : x ≠ 0 := by simpa using h
    rw [if_pos h']
    simp
  | x :: l, k + 1, h0, h => by
    have hx : x = 0 := by simpa using h0 0 (by omega)
    unfold firstE
    rw [if_neg (by simp [hx]), firstE_at l k (fun j hj => by simpa using h0 (j + 1) (by omega)) (by simpa using h)]
    simp
theorem firstE_none : ∀ (l : List Int), (∀ j, j < l.length → l[j]?.getD 0 = 0) → firstE l = 0
  | [], _ => rfl
  | x :: l, h => by
    have hx : x = 0 := by simpa using h 0 (by simp)
    unfold firstE
    rw [if_neg (by simp [hx])]
    exact firstE_none l fun j hj => by simpa using h (j + 1) (by simp; omega)
theorem wrongL_at (d : Int) (xss : List (List Int)) {i : Nat} (hi : i < xss.length) : (wrongL d xss)[i]?.getD 0 = wrongM d (xss.length : Int) (i : Int) (xss[i]?.getD []).length := by simp [wrongL, hi]
end Go.Proofs.Yticcoacoepajpaa.V
namespace Go.Proofs.Yticcoacoepajpaa.V
open Go Go.RowKit
set_option linter.unusedVariables false
set_option linter.unusedSimpArgs false

/-- Lists of words. -/
def LsA (W : World) (a : Option Addr) (len : Nat) (xss : List (List Int)) : Prop := xss.length = len ∧ len ≤ 9223372036854775807 ∧ (len = 0 ∨ ∃ b off, a = some ⟨b, off, none⟩ ∧ ∀ i, i < len → ∃ X m c, W.cell? ⟨b, off + i, none⟩ = some (.slice X m c) ∧ Ints W X m (xss[i]?.getD []) ∧ m ≤ c)
theorem LsA.below {W V : World} {a : Option Addr} {len : Nat} {xss : List (List Int)} (h : LsA W a len xss) (hb : Below W.heap.size W V) : LsA V a len xss := by
  refine ⟨h.1, h.2.1, h.2.2.imp id fun ⟨b, off, e, hc⟩ => ⟨b, off, e, fun i hi => ?_⟩⟩
  obtain ⟨X, m, c, h1, h2, h3⟩ := hc i hi
  exact ⟨X, m, c, (hb.cell (p := ⟨b, off + i, none⟩) (lt_of_cell h1)).trans h1, h2.below hb, h3⟩
theorem LsA.at {W : World} {a : Option Addr} {len : Nat} {xss : List (List Int)} (h : LsA W a len xss) (h0 : 0 < len) : ∃ b off, a = some ⟨b, off, none⟩ ∧ ∀ i, i < len → ∃ X m c, W.cell? ⟨b, off + i, none⟩ = some (.slice X m c) ∧ Ints W X m (xss[i]?.getD []) ∧ m ≤ c := by
  rcases h.2.2 with e | h
  · omega
  · exact h
set_option maxRecDepth 100000 in
set_option maxHeartbeats 4000000 in
theorem sameMem_eq (a : Option Addr) (cap : Nat) (a' : Option Addr) (cap' : Nat) (len : Nat) (M : List (List Int)) (w : World) (h : LsA w a len M) (h' : LsA w a' len M) :
    Calls Try.prog 29 #[.slice a len cap, .slice a' len cap'] w fun e w' => e = .returned (.bool true) ∧ ∃ n, w' = w.drewN n := by
  have hm := h.2.1
  have H := hide h
  have H' := hide h'
  have q0 : ((len : Int) != (len : Int)) = false := by simp
  clear h h'
  go_enter Try.func29, Try.ntmps29
  go_wp2_with fail
  go_loopw [14] (fun i wr => ∃ k : Nat, k ≤ len ∧ i = .int .i64 k ∧ ∃ n, wr = w.drewN n) (fun i _ => len - (intOf i).toNat)
  case atStart => exact ⟨0, Nat.zero_le _, rfl, 0, rfl⟩
  case round =>
    obtain ⟨k, hk, rfl, nn, rfl⟩ := hrel
    by_cases hlt : k < len
    · obtain ⟨b, off, rfl, hat⟩ := H.out.at (by omega)
      obtain ⟨x, l, c, c1, c2⟩ := hat k hlt
      obtain ⟨b', off', rfl, hat'⟩ := H'.out.at (by omega)
      obtain ⟨x', l', c', c1', c2'⟩ := hat' k hlt
      obtain rfl : l = l' := by have := c2.1.1; have := c2'.1.1; omega
      have z1 := lt_of_cell c1
      have z1' := lt_of_cell c1'
      simp only at z1 z1'
      have hlm := c2.1.2.1
      have q1 : ((l : Int) != (l : Int)) = false := by simp
      have HX := hide c2.1
      have HX' := hide c2'.1
      have HC1 := hide c1
      have HC1' := hide c1'
      clear hat hat' c2 c2'
      go_wp2_with fail
      go_quiet (fail)
      go_wp2_with fail
      go_loopw [33] (fun i wr => ∃ j : Nat, j ≤ l ∧ i = .int .i64 j ∧ ∃ n, wr = w.drewN n) (fun i _ => l - (intOf i).toNat)
      case atStart => exact ⟨0, Nat.zero_le _, rfl, _, rfl⟩
      case round =>
        obtain ⟨j, hj, rfl, n2, rfl⟩ := hrel
        by_cases hlt2 : j < l
        · obtain ⟨y, yo, rfl, hy, hyc⟩ := HX.out.at (by omega)
          obtain ⟨y', yo', rfl, hy', hyc'⟩ := HX'.out.at (by omega)
          have d1 := hyc j hlt2
          have d1' := hyc' j hlt2
          obtain ⟨V, hV⟩ : ∃ V, V = (M[k]?.getD [])[j]?.getD 0 := ⟨_, rfl⟩
          rw [← hV] at d1 d1'
          have q2 : (V != V) = false := by simp
          clear hyc hyc' hV
          go_wp2_with fail
          go_quiet (fail)
          go_wp2_with fail
          go_roundw
          case rel => exact ⟨j + 1, by omega, by go_num, _, rfl⟩
          case measure => simp [intOf]; omega
        · go_wp2_with fail
          go_roundw
          case rel => exact ⟨k + 1, by omega, by go_num, _, rfl⟩
          case measure => simp [intOf]; omega
    · go_wp2_with fail
      go_ret
      exact ⟨rfl, _, rfl⟩
theorem bl_drew (w : World) (n : Nat) : Below w.heap.size w (w.drewN n) := ⟨rfl, rfl, rfl, Nat.le_refl _, fun _ _ => rfl⟩
theorem lsA_one {w : World} {g : Nat} {X : Option Addr} {m c : Nat} {xs : List Int} (hc : w.cell? ⟨g, 0, none⟩ = some (.slice X m c)) (h : Ints w X m xs) (hmc : m ≤ c) : LsA w (some ⟨g, 0, none⟩) 1 [xs] := by
  refine ⟨rfl, by omega, .inr ⟨g, 0, rfl, fun i hi => ?_⟩⟩
  have : i = 0 := by omega
  subst this
  exact ⟨X, m, c, hc, h, hmc⟩
set_option maxRecDepth 100000 in
theorem sameW_eq (x y : Sl) (xs : List Int) (w : World) (hx : Ints w x.a x.n xs) (hxc : x.n ≤ x.c) (hy : Ints w y.a y.n xs) (hyc : y.n ≤ y.c) :
    Calls Try.prog 14 #[.slice x.a x.n x.c, .slice y.a y.n y.c] w fun e w' => e = .returned (.bool true) ∧ Below w.heap.size w w' := by
  have HX := hide hx
  have HY := hide hy
  obtain ⟨xa, xn, xc⟩ := x
  obtain ⟨ya, yn, yc⟩ := y
  simp only at HX HY hxc hyc ⊢
  clear hx hy
  go_enter Try.func14, Try.ntmps14
  go_wp2_with (go_at_call 29; refine stp ?_)
  unfold Stp1
  have hb1 : Below w.heap.size w ((w.alloc (.cells #[.slice xa xn xc] 24)).alloc (.cells #[.slice ya yn yc] 24)) := (bl_new _).alloc (by simp) _
  have k1 : ((w.alloc (.cells #[.slice xa xn xc] 24)).alloc (.cells #[.slice ya yn yc] 24)).cell? ⟨w.heap.size, 0, none⟩ = some (.slice xa xn xc) := by
    have h8 := ((bl_new (w := w.alloc (.cells #[.slice xa xn xc] 24)) (.cells #[.slice ya yn yc] 24)).block w.heap.size (by simp)).trans (World.alloc_heap_new _ _)
    simp only [World.cell?, h8]
    rfl
  have k2 : ((w.alloc (.cells #[.slice xa xn xc] 24)).alloc (.cells #[.slice ya yn yc] 24)).cell? ⟨w.heap.size + 1, 0, none⟩ = some (.slice ya yn yc) := by
    have h8 := World.alloc_heap_new' (w.alloc (.cells #[.slice xa xn xc] 24)) (.cells #[.slice ya yn yc] 24) (g := w.heap.size + 1) (by simp)
    simp only [World.cell?, h8]
    rfl
  refine (sameMem_eq _ _ _ _ 1 [xs] _ (lsA_one k1 (HX.out.below hb1) hxc) (lsA_one k2 (HY.out.below hb1) hyc)).mono ?_
  rintro e w1 ⟨rfl, nn, rfl⟩
  have HB1 := hide hb1
  clear k1 k2 hb1
  go_wp2_with fail
  go_ret
  exact ⟨rfl, bl_on HB1.out (bl_drew _ nn)⟩
theorem rWrong_any (d m me : Int) (l : Nat) (w : World) : Calls Try.prog 10 #[.int .i64 d, .int .i64 m, .int .i64 me, .int .i64 (l : Int)] w fun e w' => e = .returned (.int .i64 (wrongM d m me l)) ∧ w' = w := by
  go_enter Try.func10, Try.ntmps10
  by_cases a1 : d < 1
  · have e : wrongM d m me l = 1 := by unfold wrongM; rw [if_pos (.inl a1)]
    rw [e]
    go_wp2_with fail
    go_ret
    exact ⟨rfl, rfl⟩
  by_cases a2 : 4 < d
  · have e : wrongM d m me l = 1 := by unfold wrongM; rw [if_pos (.inr a2)]
    rw [e]
    go_wp2_with fail
    go_ret
    exact ⟨rfl, rfl⟩
  by_cases b1 : m < 1
  · have e : wrongM d m me l = 4 := by unfold wrongM; rw [if_neg (by omega), if_pos (.inl b1)]
    rw [e]
    go_wp2_with fail
    go_ret
    exact ⟨rfl, rfl⟩
  by_cases b2 : 16 < m
  · have e : wrongM d m me l = 4 := by unfold wrongM; rw [if_neg (by omega), if_pos (.inr (.inl b2))]
    rw [e]
    go_wp2_with fail
    go_ret
    exact ⟨rfl, rfl⟩
  by_cases b3 : me < 0
  · have e : wrongM d m me l = 4 := by unfold wrongM; rw [if_neg (by omega), if_pos (.inr (.inr (.inl b3)))]
    rw [e]
    go_wp2_with fail
    go_ret
    exact ⟨rfl, rfl⟩
  by_cases b4 : m ≤ me
  · have e : wrongM d m me l = 4 := by unfold wrongM; rw [if_neg (by omega), if_pos (.inr (.inr (.inr b4)))]
    have b5 : ¬ me < m := by omega
    rw [e]
    go_wp2_with fail
    go_ret
    exact ⟨rfl, rfl⟩
  have b5 : me < m := by omega
  by_cases c1 : 65536 < l
  · have e : wrongM d m me l = 5 := by unfold wrongM; rw [if_neg (by omega), if_neg (by omega), if_pos c1]
    have c2 : (65536 : Int) < (l : Int) := by omega
    rw [e]
    go_wp2_with fail
    go_ret
    exact ⟨rfl, rfl⟩
  have c2 : ¬ (65536 : Int) < (l : Int) := by omega
  by_cases d4 : d = 4
  · subst d4
    obtain ⟨n, rfl⟩ : ∃ n : Nat, m = (n : Int) := ⟨m.toNat, by omega⟩
    have hb := tmod_bd (n := n) (by omega) (l : Int)
    have q0 : ¬ ((n : Int) = 0) := by omega
    have q1 : ((n : Int) == 0) = false := by simp; omega
    have q3 : wrap64 ((l : Int).tmod (n : Int)) = (l : Int).tmod (n : Int) := by unfold wrap64; omega
    by_cases r : (l : Int).tmod (n : Int) = 0
    · have e : wrongM 4 (n : Int) me l = 0 := by unfold wrongM; rw [if_neg (by omega), if_neg (by omega), if_neg c1, if_neg (fun h => h.2 r)]
      rw [e]
      clear hb
      go_wp2_with fail
      go_ret
      exact ⟨rfl, rfl⟩
    · have e : wrongM 4 (n : Int) me l = 6 := by unfold wrongM; rw [if_neg (by omega), if_neg (by omega), if_neg c1, if_pos ⟨rfl, r⟩]
      rw [e]
      have r2 : ((l : Int).tmod (n : Int) != 0) = true := by simpa using r
      have r3 : ((l : Int).tmod (n : Int) == 0) = false := by simpa using r
      have r5 : ¬ ((l : Int) % (n : Int) = 0) := by rw [← Int.tmod_eq_emod_of_nonneg (by omega)]; exact r
      have r6 : ((l : Int) % (n : Int) == 0) = false := by simpa using r5
      have r7 : ((l : Int) % (n : Int) != 0) = true := by simpa using r5
      clear hb e
      go_wp2_with fail
      go_ret
      exact ⟨rfl, rfl⟩
  · have e : wrongM d m me l = 0 := by unfold wrongM; rw [if_neg (by omega), if_neg (by omega), if_neg c1, if_neg (fun h => d4 h.1)]
    rw [e]
    go_wp2_with fail
    go_ret
    exact ⟨rfl, rfl⟩
end Go.Proofs.Yticcoacoepajpaa.V
namespace Go.Proofs.Yticcoacoepajpaa.V
open Go Go.RowKit
set_option linter.unusedVariables false
set_option linter.unusedSimpArgs false

/-- Finite facts of the numbers of members and notes. -/
theorem fin_from_to : ∀ d < 5, ∀ n < 7, ∀ i < n, ∀ t < 11, fromN d n (toN d n i t) t = i ∧ toN d n (fromN d n i t) t = i := by decide +kernel
theorem fin_take_send : ∀ d < 4, 1 ≤ d → ∀ n < 7, ∀ i < n, ∀ t < 11, takeN d n i t = sendN d n i (t + 1) := by decide +kernel
theorem fin_apart' : ∀ d < 3, ∀ n < 7, ∀ i < n, ∀ t < 11, ∀ u < n - 1, takeN (d + 1) n i (t + u) ≠ sendN (d + 1) n i t := by decide +kernel
theorem fin_apart (d : Nat) (h4 : d < 4) (h1 : 1 ≤ d) (n : Nat) (hn : n < 7) (i : Nat) (hi : i < n) (t : Nat) (ht : t < 11) (u : Nat) (hu : u < n - 1) : takeN d n i (t + u) ≠ sendN d n i t := by
  have h := fin_apart' (d - 1) (by omega) n hn i hi t ht u hu
  rwa [show d - 1 + 1 = d by omega] at h
theorem fin_inj : ∀ d < 5, ∀ n < 7, ∀ i < n, ∀ t < n - 1, ∀ v < t, takeN d n i v ≠ takeN d n i t := by decide +kernel
theorem notN_small {d n : Nat} (h : n < 7) : notN d n ≤ 10 := by unfold notN; split <;> omega

/-- The words of all: what is right of them. -/
structure TmOk (d n : Nat) (x : Nat → List Int) : Prop where
  d1 : 1 ≤ d
  d5 : d < 5
  n1 : 1 ≤ n
  n7 : n < 7
  len : d ≠ 3 → ∀ i, i < n → (x i).length = (x 0).length
  sm : ∀ i, i < n → (x i).length ≤ 200
  dv : d = 4 → (x 0).length % n = 0
  rng : ∀ i, i < n → ∀ w ∈ x i, -9223372036854775808 ≤ w ∧ w ≤ 9223372036854775807
def ownP (d n : Nat) (x : Nat → List Int) (i : Nat) : List (List Int) := (begM d n i (x i)).parts
theorem ownP_len (d n : Nat) (x : Nat → List Int) (i : Nat) : (ownP d n x i).length = n := by simp [ownP, begM]
/-- What note t of member i says. -/
def dat (d n : Nat) (x : Nat → List Int) : Nat → Nat → List Int
  | 0, i => prt (ownP d n x i) (sendN d n i 0)
  | t + 1, i => if d = 4 then prt (ownP d n x i) (sendN d n i (t + 1))
    else if sumsB d n t = true then addW (prt (ownP d n x i) (takeN d n i t)) (dat d n x t (fromN d n i t)) else dat d n x t (fromN d n i t)
/-- What member i has when it has used so many notes. -/
def parA (d n : Nat) (x : Nat → List Int) (i : Nat) : Nat → List (List Int)
  | 0 => ownP d n x i
  | t + 1 => (parA d n x i t).set (takeN d n i t) (if sumsB d n t = true then addW (prt (parA d n x i t) (takeN d n i t)) (dat d n x t (fromN d n i t)) else dat d n x t (fromN d n i t))
theorem parA_len (d n : Nat) (x : Nat → List Int) (i : Nat) : ∀ T, (parA d n x i T).length = n
  | 0 => ownP_len d n x i
  | T + 1 => by unfold parA; rw [List.length_set]; exact parA_len d n x i T
theorem prt_setE (P : List (List Int)) (p : Nat) (ys : List Int) (hp : p < P.length) : prt (P.set p ys) p = ys := by simp [prt, hp]
theorem prt_setN (P : List (List Int)) (p k : Nat) (ys : List Int) (h : p ≠ k) : prt (P.set p ys) k = prt P k := by
  unfold prt; rw [List.getElem?_set_ne h]
/-- How long a piece is. -/
def plN (n L p : Nat) : Nat := (p + 1) * L / n - p * L / n
theorem piece_len (xs : List Int) (p n : Nat) (hp : p < n) : (pieceL xs p n).length = plN n xs.length p := by
  have h1 : (p + 1) * xs.length / n ≤ xs.length := by
    refine Nat.div_le_of_le_mul ?_
    exact Nat.mul_le_mul_right _ hp
  unfold pieceL plN
  rw [List.length_drop, List.length_take, Nat.min_eq_left h1]
/-- What is not touched stays. -/
theorem parA_keep {d n : Nat} {x : Nat → List Int} {i p : Nat} (hp : p < n) : ∀ (u T : Nat), (∀ v, v < u → takeN d n i (T + v) ≠ p) → prt (parA d n x i (T + u)) p = prt (parA d n x i T) p
  | 0, T, _ => rfl
  | u + 1, T, hv => by
    show prt ((parA d n x i (T + u)).set (takeN d n i (T + u)) (if sumsB d n (T + u) = true then addW (prt (parA d n x i (T + u)) (takeN d n i (T + u))) (dat d n x (T + u) (fromN d n i (T + u))) else dat d n x (T + u) (fromN d n i (T + u)))) p = _
    rw [prt_setN _ _ _ _ (hv u (by omega))]
    exact parA_keep hp u T (fun v h' => hv v (by omega))
/-- What is sent as note t is known, whenever it is sent. -/
theorem parA_send {d n : Nat} {x : Nat → List Int} (h : TmOk d n x) (h4 : d ≠ 4) {i : Nat} (hi : i < n) (t : Nat) (ht : t < notN d n) (u : Nat) (hu : u ≤ n - 1) : prt (parA d n x i (t + u)) (sendN d n i t) = dat d n x t i := by
  have h5 := h.d5
  have hn := h.n1
  have ht11 := notN_small (d := d) h.n7
  rw [parA_keep (sendN_lt h.n1) u t (fun v hv => fin_apart d (by omega) h.d1 n h.n7 i hi t (by omega) v (by omega))]
  cases t with
  | zero => rfl
  | succ t =>
    unfold dat
    rw [if_neg h4, ← fin_take_send d (by omega) h.d1 n h.n7 i hi t (by omega)]
    conv => lhs; unfold parA
    rw [prt_setE _ _ _ (by rw [parA_len]; exact takeN_lt h.n1)]
    by_cases hs : sumsB d n t = true
    · rw [if_pos hs, if_pos hs]
      have ht1 : t < n - 1 := by
        unfold sumsB at hs
        simp only [decide_eq_true_eq] at hs
        unfold notN at ht
        split at ht <;> omega
      have e : prt (parA d n x i t) (takeN d n i t) = prt (ownP d n x i) (takeN d n i t) := by
        have h9 := parA_keep (d := d) (x := x) (i := i) (takeN_lt (d := d) (me := i) (t := t) h.n1) t 0 (fun v hv => by rw [Nat.zero_add]; exact fin_inj d (by omega) n h.n7 i hi t ht1 v hv)
        rw [Nat.zero_add] at h9
        exact h9
      rw [e]
    · rw [if_neg hs, if_neg hs]
end Go.Proofs.Yticcoacoepajpaa.V
namespace Go.Proofs.Yticcoacoepajpaa.V
open Go Go.RowKit
set_option linter.unusedVariables false
set_option linter.unusedSimpArgs false

/-- Has a member note t (used or kept)? -/
def gotM (s : St) (t : Nat) : Prop := t < s.taken ∨ ∃ xs, lookL t s.early = some xs
/-- What is right of a member that may have notes to use. -/
structure StI (d n : Nat) (x : Nat → List Int) (i : Nat) (s : St) : Prop where
  own : s.own = ownP d n x i
  parts : s.parts = parA d n x i s.taken
  early : ∀ t xs, lookL t s.early = some xs → xs = dat d n x t (fromN d n i t) ∧ t < notN d n
  sent : s.sent ≤ notN d n
  taken : s.taken ≤ notN d n
theorem StI.use {d n : Nat} {x : Nat → List Int} {i : Nat} {s : St} (h : StI d n x i s) {xs : List Int} (hl : lookL s.taken s.early = some xs) : StI d n x i (useM d n i s xs) := by
  obtain ⟨e1, e2⟩ := h.early _ _ hl
  refine ⟨h.own, ?_, h.early, h.sent, e2⟩
  show s.parts.set _ _ = parA d n x i (s.taken + 1)
  unfold parA
  rw [h.parts, e1]
/-- A note of the play's own. -/
def ntI (d n : Nat) (x : Nat → List Int) (i t : Nat) : Nt := ⟨i, toN d n i t, t, dat d n x t i⟩
/-- What holds all the time. -/
structure PlI (d n : Nat) (x : Nat → List Int) (P : Pl) : Prop where
  st : ∀ i, i < n → StI d n x i (P.ss i) ∧ lookL (P.ss i).taken (P.ss i).early = none
  can : d ≠ 4 → ∀ i, i < n → (P.ss i).sent ≤ (P.ss i).taken + 1
  ws : ∀ y ∈ P.ws, ∃ i t, i < n ∧ t < (P.ss i).sent ∧ y = ntI d n x i t
  dl : ∀ i t, i < n → t < (P.ss i).sent → gotM (P.ss (toN d n i t)) t ∨ ntI d n x i t ∈ P.ws
  fr : ∀ j t, j < n → gotM (P.ss j) t → t < (P.ss (fromN d n j t)).sent
end Go.Proofs.Yticcoacoepajpaa.V
namespace Go.Proofs.Yticcoacoepajpaa.V
open Go Go.RowKit
set_option linter.unusedVariables false
set_option linter.unusedSimpArgs false

theorem fin_pred : ∀ d < 4, ∀ n < 7, ∀ i < n, ∀ k < 7, ∀ t < 11, fromN d n (modI ((i : Int) - (k : Nat)) n) t = modI ((i : Int) - ((k + 1 : Nat) : Int)) n := by decide +kernel
theorem fin_self : ∀ n : Nat, n < 7 → ∀ i : Nat, i < n → modI ((i : Int) - ((0 : Nat) : Int)) n = i ∧ modI ((i : Int) - (n : Nat)) n = i := by decide +kernel
/-- Nobody has used more than the one ahead has sent. -/
theorem PlI.ahead {d n : Nat} {x : Nat → List Int} (hx : TmOk d n x) {P : Pl} (h : PlI d n x P) (h4 : d ≠ 4) {j : Nat} (hj : j < n) : (P.ss j).taken ≤ (P.ss (fromN d n j 0)).sent := by
  by_cases e : (P.ss j).taken = 0
  · omega
  · have h1 := h.fr j ((P.ss j).taken - 1) hj (.inl (by omega))
    have e2 : fromN d n j ((P.ss j).taken - 1) = fromN d n j 0 := by unfold fromN; rw [if_neg h4, if_neg h4]
    rw [e2] at h1
    omega
theorem PlI.chain {d n : Nat} {x : Nat → List Int} (hx : TmOk d n x) {P : Pl} (h : PlI d n x P) (h4 : d ≠ 4) {i : Nat} (hi : i < n) : ∀ k, k < 7 → (P.ss i).taken ≤ (P.ss (modI ((i : Int) - ((k + 1 : Nat) : Int)) n)).sent + k
  | 0, _ => by
    have h1 := h.ahead hx h4 hi
    have h2 := fin_pred d (by have := hx.d5; omega) n hx.n7 i hi 0 (by omega) 0 (by omega)
    rw [(fin_self n hx.n7 i hi).1] at h2
    rw [← h2]
    omega
  | k + 1, hk => by
    have h0 := h.chain hx h4 hi k (by omega)
    have hq : modI ((i : Int) - ((k + 1 : Nat) : Int)) n < n := modI_lt hx.n1 _
    have h1 := h.can h4 _ hq
    have h2 := h.ahead hx h4 hq
    rw [fin_pred d (by have := hx.d5; omega) n hx.n7 i hi (k + 1) (by omega) 0 (by omega)] at h2
    omega
theorem PlI.room {d n : Nat} {x : Nat → List Int} (hx : TmOk d n x) {P : Pl} (h : PlI d n x P) (h4 : d ≠ 4) {i : Nat} (hi : i < n) : (P.ss i).taken ≤ (P.ss i).sent + (n - 1) := by
  have h1 := hx.n1
  have h7 := hx.n7
  have h2 := h.chain hx h4 hi (n - 1) (by omega)
  rw [show n - 1 + 1 = n by omega, (fin_self n hx.n7 i hi).2] at h2
  exact h2
/-- What is sent is what is known. -/
theorem PlI.note {d n : Nat} {x : Nat → List Int} (hx : TmOk d n x) {P : Pl} (h : PlI d n x P) {i : Nat} (hi : i < n) (hc : canM d n (P.ss i) = true) : noteM d n i (P.ss i) = ntI d n x i (P.ss i).sent ∧ (P.ss i).sent < notN d n ∧ (d ≠ 4 → (P.ss i).sent ≤ (P.ss i).taken) := by
  have hs := (h.st i hi).1
  unfold canM at hc
  simp only [Bool.not_eq_true', Bool.or_eq_false_iff, Bool.and_eq_false_iff, decide_eq_false_iff_not] at hc
  have h1 : (P.ss i).sent < notN d n := by have := hs.sent; omega
  have h2 : d ≠ 4 → (P.ss i).sent ≤ (P.ss i).taken := fun h4 => by rcases hc.2 with a | a <;> omega
  refine ⟨?_, h1, h2⟩
  unfold noteM ntI
  congr 1
  by_cases h4 : d = 4
  · rw [if_pos h4, hs.own]
    cases (P.ss i).sent with
    | zero => rfl
    | succ t => unfold dat; rw [if_pos h4]
  · rw [if_neg h4, hs.parts]
    have h5 := h.room hx h4 hi
    have h6 := h2 h4
    have h7 := parA_send hx h4 hi (P.ss i).sent h1 ((P.ss i).taken - (P.ss i).sent) (by omega)
    rw [show (P.ss i).sent + ((P.ss i).taken - (P.ss i).sent) = (P.ss i).taken by omega] at h7
    exact h7
theorem PlI.next {d n : Nat} {x : Nat → List Int} (hx : TmOk d n x) {P : Pl} (h : PlI d n x P) {i : Nat} (hi : i < n) (hc : canM d n (P.ss i) = true) : PlI d n x ⟨updN P.ss i (nextM d n (P.ss i)), P.ws ++ [noteM d n i (P.ss i)]⟩ := by
  obtain ⟨e1, e2, e3⟩ := h.note hx hi hc
  have en : nextM d n (P.ss i) = { P.ss i with sent := (P.ss i).sent + 1 } := by unfold nextM; rw [if_pos hc]
  have hs := h.st i hi
  rw [e1, en]
  have hsn : ∀ j, (P.ss j).sent ≤ (updN P.ss i { P.ss i with sent := (P.ss i).sent + 1 } j).sent := fun j => by
    by_cases e : j = i
    · rw [e, updN_same]; exact Nat.le_succ _
    · rw [updN_other _ _ e]; exact Nat.le_refl _
  have hg : ∀ j u, gotM (updN P.ss i { P.ss i with sent := (P.ss i).sent + 1 } j) u ↔ gotM (P.ss j) u := fun j u => by
    by_cases e : j = i
    · rw [e, updN_same]; exact Iff.rfl
    · rw [updN_other _ _ e]
  refine ⟨fun j hj => ?_, fun h4 j hj => ?_, fun y hy => ?_, fun j t hj ht => ?_, fun j u hj hu => ?_⟩
  · simp only
    by_cases e : j = i
    · subst e
      rw [updN_same]
      exact ⟨⟨hs.1.own, hs.1.parts, hs.1.early, e2, hs.1.taken⟩, hs.2⟩
    · rw [updN_other _ _ e]; exact h.st j hj
  · simp only
    by_cases e : j = i
    · subst e
      rw [updN_same]
      have := e3 h4
      show (P.ss j).sent + 1 ≤ (P.ss j).taken + 1
      omega
    · rw [updN_other _ _ e]; exact h.can h4 j hj
  · rcases List.mem_append.1 hy with a | a
    · obtain ⟨i', t', a1, a2, a3⟩ := h.ws y a
      exact ⟨i', t', a1, Nat.lt_of_lt_of_le a2 (hsn i'), a3⟩
    · refine ⟨i, (P.ss i).sent, hi, ?_, by simpa using a⟩
      simp only
      rw [updN_same]
      exact Nat.lt_succ_self _
  · simp only at ht ⊢
    rw [hg]
    by_cases e : j = i
    · subst e
      rw [updN_same] at ht
      by_cases e' : t = (P.ss j).sent
      · right; rw [e']; simp
      · rcases h.dl j t hj (by have : t < (P.ss j).sent + 1 := ht; omega) with a | a
        · exact .inl a
        · exact .inr (List.mem_append.2 (.inl a))
    · rw [updN_other _ _ e] at ht
      rcases h.dl j t hj ht with a | a
      · exact .inl a
      · exact .inr (List.mem_append.2 (.inl a))
  · simp only at hu ⊢
    exact Nat.lt_of_lt_of_le (h.fr j u hj ((hg j u).1 hu)) (hsn _)
/-- Where nothing is left all is used. -/
theorem PlI.done {d n : Nat} {x : Nat → List Int} (hx : TmOk d n x) {P : Pl} (h : PlI d n x P) (hw : P.ws = []) (hs : ∀ i, i < n → (P.ss i).sent = notN d n) : ∀ j, j < n → (P.ss j).taken = notN d n ∧ (P.ss j).parts = parA d n x j (notN d n) := by
  intro j hj
  have h11 := notN_small (d := d) hx.n7
  have ht : (P.ss j).taken = notN d n := by
    by_cases e : (P.ss j).taken = notN d n
    · exact e
    · exfalso
      have hlt : (P.ss j).taken < notN d n := by have := (h.st j hj).1.taken; omega
      have hq : fromN d n j (P.ss j).taken < n := fromN_lt hx.n1
      rcases h.dl _ (P.ss j).taken hq (by rw [hs _ hq]; exact hlt) with a | a
      · rw [(fin_from_to d hx.d5 n hx.n7 j hj _ (by omega)).2] at a
        rcases a with a | ⟨xs, a⟩
        · omega
        · rw [(h.st j hj).2] at a; cases a
      · rw [hw] at a; simp at a
  exact ⟨ht, by rw [(h.st j hj).1.parts, ht]⟩
end Go.Proofs.Yticcoacoepajpaa.V
namespace Go.Proofs.Yticcoacoepajpaa.V
open Go Go.RowKit
set_option linter.unusedVariables false
set_option linter.unusedSimpArgs false

end Go.Proofs.Yticcoacoepajpaa.V
namespace Go.Proofs.Yticcoacoepajpaa.V
open Go Go.RowKit
set_option linter.unusedVariables false
set_option linter.unusedSimpArgs false

/-- Where a piece begins in memory. -/
def pcA (a : Option Addr) (c lo : Nat) : Option Addr := if c = lo then a else a.map (fun x => x.add lo)
theorem piece_ints {w : World} {a : Option Addr} {l c : Nat} {xs : List Int} (h : Ints w a l xs) (hc : l ≤ c) {p n : Nat} (hp : p < n) : Ints w (pcA a c (p * l / n)) ((p + 1) * l / n - p * l / n) (pieceL xs p n) := by
  have hl := h.1
  have h1 : (p + 1) * l / n ≤ l := Nat.div_le_of_le_mul (Nat.mul_le_mul_right _ hp)
  have hlen : (pieceL xs p n).length = (p + 1) * l / n - p * l / n := by rw [piece_len _ _ _ hp, hl]; rfl
  obtain ⟨lo, hlo⟩ : ∃ lo, lo = p * l / n := ⟨_, rfl⟩
  obtain ⟨hi, hhi⟩ : ∃ hi, hi = (p + 1) * l / n := ⟨_, rfl⟩
  rw [← hlo, ← hhi] at hlen ⊢
  rw [← hhi] at h1
  have epc : pieceL xs p n = (xs.take hi).drop lo := by unfold pieceL; rw [hl, ← hlo, ← hhi]
  refine ⟨hlen, by have := h.2.1; omega, fun x hx => h.2.2.1 x (by rw [epc] at hx; exact List.mem_of_mem_take (List.mem_of_mem_drop hx)), ?_⟩
  by_cases h0 : hi - lo = 0
  · exact .inl h0
  · right
    obtain ⟨b, off, rfl, _, hcell⟩ := h.at (by omega)
    refine ⟨b, off + lo, ?_, fun j hj => ?_⟩
    · unfold pcA
      rw [if_neg (by omega)]
      show some ((⟨b, off, none⟩ : Addr).add lo) = _
      rw [add_pl]
    · have h9 := hcell (lo + j) (by omega)
      rw [epc, List.getElem?_drop, List.getElem?_take_of_lt (by omega)]
      rw [show off + lo + j = off + (lo + j) by omega]
      exact h9
/-- The answer of Piece. -/
def PcAns (a : Option Addr) (l c p n : Nat) (w : World) (e : Ending) (w' : World) : Prop := e = .returned (.slice (pcA a c (p * l / n)) ((p + 1) * l / n - p * l / n) (c - p * l / n)) ∧ Below w.heap.size w w'
set_option maxRecDepth 100000 in
set_option maxHeartbeats 4000000 in
theorem rPiece_at (a : Option Addr) (l c : Nat) (xs : List Int) (p n : Nat) (w : World) (h : Ints w a l xs) (hc : l ≤ c) (hl : l ≤ 1000000) (hp : p < n) (hn : n ≤ 16) :
    Calls Try.prog 15 #[.slice a l c, .int .i64 (p : Int), .int .i64 (n : Int)] w fun e w' => PcAns a l c p n w e w' := by
  have HI := hide h
  have h1 : (p + 1) * l / n ≤ l := Nat.div_le_of_le_mul (Nat.mul_le_mul_right _ hp)
  have h2 : p * l / n ≤ (p + 1) * l / n := Nat.div_le_div_right (Nat.mul_le_mul_right _ (by omega))
  obtain ⟨P0, hP0⟩ : ∃ P0, P0 = p * l := ⟨_, rfl⟩
  obtain ⟨P1, hP1⟩ : ∃ P1, P1 = (p + 1) * l := ⟨_, rfl⟩
  have hb0 : P0 ≤ 16 * 1000000 := by rw [hP0]; exact Nat.mul_le_mul (by omega) hl
  have hb1 : P1 ≤ 16 * 1000000 := by rw [hP1]; exact Nat.mul_le_mul (by omega) hl
  obtain ⟨lo, hlo⟩ : ∃ lo, lo = p * l / n := ⟨_, rfl⟩
  obtain ⟨hi, hhi⟩ : ∃ hi, hi = (p + 1) * l / n := ⟨_, rfl⟩
  rw [← hlo, ← hhi] at h2
  rw [← hhi] at h1
  have e0 : (p : Int) * (l : Int) = (P0 : Int) := by rw [hP0]; simp
  have e1 : ((p : Int) + 1) * (l : Int) = (P1 : Int) := by rw [hP1]; simp
  have d0 : (P0 : Int) / (n : Int) = (lo : Int) := by rw [hlo, hP0]; simp
  have d1 : (P1 : Int) / (n : Int) = (hi : Int) := by rw [hhi, hP1]; simp
  have g0 : (P0 : Int).tdiv (n : Int) = (lo : Int) := by rw [Int.tdiv_eq_ediv_of_nonneg (Int.natCast_nonneg _)]; exact d0
  have g1 : (P1 : Int).tdiv (n : Int) = (hi : Int) := by rw [Int.tdiv_eq_ediv_of_nonneg (Int.natCast_nonneg _)]; exact d1
  have HX := hide (show ∀ w' : World, Below w.heap.size w w' → Ints w' (pcA a c lo) (hi - lo) (pieceL xs p n) from fun w' hb => by
    rw [hlo, hhi]
    exact piece_ints (h.below hb) hc hp)
  have HPL := hide (show hi - lo = plN n l p from by rw [hlo, hhi]; rfl)
  have HLO := hide hlo
  have HHI := hide hhi
  unfold PcAns
  rw [← hlo, ← hhi]
  clear hlo hhi hP0 hP1 h
  have w0 : IntKind.i64.wrap (P0 : Int) = (P0 : Int) := wrapk_small (by omega) (by omega)
  have w1 : IntKind.i64.wrap (P1 : Int) = (P1 : Int) := wrapk_small (by omega) (by omega)
  have w2 : IntKind.i64.wrap (lo : Int) = (lo : Int) := wrapk_small (by omega) (by omega)
  have w3 : IntKind.i64.wrap (hi : Int) = (hi : Int) := wrapk_small (by omega) (by omega)
  have w4 : IntKind.i64.wrap ((p : Int) + 1) = (p : Int) + 1 := wrapk_small (by omega) (by omega)
  have H1 : Hid (IntKind.i64.wrap ((p : Int) * (l : Int)) = (P0 : Int)) := by rw [e0]; exact w0
  have H2 : Hid (IntKind.i64.wrap ((P0 : Int).tdiv (n : Int)) = (lo : Int)) := by rw [g0]; exact w2
  have H2b : Hid (IntKind.i64.wrap ((P0 : Int) / (n : Int)) = (lo : Int)) := by rw [d0]; exact w2
  have H2c : Hid ((P0 : Int) / (n : Int) = (lo : Int)) := d0
  have H3 : Hid (IntKind.i64.wrap ((p : Int) + 1) = (p : Int) + 1) := w4
  have H4 : Hid (IntKind.i64.wrap (((p : Int) + 1) * (l : Int)) = (P1 : Int)) := by rw [e1]; exact w1
  have H5 : Hid (IntKind.i64.wrap ((P1 : Int).tdiv (n : Int)) = (hi : Int)) := by rw [g1]; exact w3
  have H5b : Hid (IntKind.i64.wrap ((P1 : Int) / (n : Int)) = (hi : Int)) := by rw [d1]; exact w3
  have H5c : Hid ((P1 : Int) / (n : Int) = (hi : Int)) := d1
  have q0 : ¬ ((n : Int) = 0) := by omega
  have qn : ¬ (n = 0) := by omega
  have q1 : ((n : Int) == 0) = false := by simp; omega
  have z1 : (0 : Int) ≤ (hi : Int) := by omega
  have z2 : (hi : Int) ≤ (c : Int) := by omega
  have z3 : hi ≤ c := by omega
  obtain ⟨A, hA⟩ : ∃ A, A = pcA a c lo := ⟨_, rfl⟩
  have HA := hide hA
  rw [← hA] at HX
  clear e0 e1 d0 d1 g0 g1 w0 w1 w2 w3 w4 hA hb0 hb1
  go_enter Try.func15, Try.ntmps15
  go_upto_region 1 with fail
  refine region_made 15 17 [fIs (.slice a l c), fIs (.int .i64 (p : Int)), fIs (.slice a l c), fIs (.int .i64 (l : Int)), fIs (.int .i64 (P0 : Int)), fIs (.int .i64 (n : Int)), fIs (.int .i64 (lo : Int)), fIs (.int .i64 (p : Int)), fIs (.int .i64 ((p : Int) + 1)), fIs (.slice a l c), fIs (.int .i64 (l : Int)), fIs (.int .i64 (P1 : Int)), fIs (.int .i64 (n : Int)), fIs (.int .i64 (hi : Int)), fIs (.slice A (hi - lo) (c - lo))] (by kernel_rfl) (by kernel_rfl) (by kernel_rfl) (fun _ ⟨_, _⟩ ⟨_, _⟩ _ e h => by cases e; exact h) ⟨fIs_good _, fIs_good _, fIs_good _, fIs_good _, fIs_good _, fIs_good _, fIs_good _, fIs_good _, fIs_good _, fIs_good _, fIs_good _, fIs_good _, fIs_good _, fIs_good _, fIs_good _, trivial⟩ ?mk ?rest
  case mk =>
    refine ⟨fun u wz hb hd => ?_, fun u wz hb hd => ?_, fun u wz hb hd => ?_, fun u wz hb hd => ?_, fun u wz hb hd => ?_, fun u wz hb hd => ?_, fun u wz hb hd => ?_, fun u wz hb hd => ?_, fun u wz hb hd => ?_, fun u wz hb hd => ?_, fun u wz hb hd => ?_, fun u wz hb hd => ?_, fun u wz hb hd => ?_, fun u wz hb hd => ?_, fun u wz hb hd => ?_, trivial⟩
    all_goals simp only [Act.put, List.setIfInBounds_toArray, List.set_cons_zero, List.set_cons_succ]
    · go_simp
      exact ⟨rfl, Below.refl _ _, fun h => by cases h⟩
    · go_simp
      exact ⟨rfl, Below.refl _ _, fun h => by cases h⟩
    · go_simp
      exact ⟨rfl, Below.refl _ _, fun h => by cases h⟩
    · have e2 : u 2 = .slice a l c := hd 2 (by omega) (by kernel_rfl)
      rw [e2]
      go_simp
      exact ⟨rfl, Below.refl _ _, fun h => by cases h⟩
    · have e1 : u 1 = .int .i64 (p : Int) := hd 1 (by omega) (by kernel_rfl)
      have e3 : u 3 = .int .i64 (l : Int) := hd 3 (by omega) (by kernel_rfl)
      rw [e1, e3]
      go_simp
      rw [H1.out]
      exact ⟨rfl, Below.refl _ _, fun h => by cases h⟩
    · go_simp
      exact ⟨rfl, Below.refl _ _, fun h => by cases h⟩
    · have e4 : u 4 = .int .i64 (P0 : Int) := hd 4 (by omega) (by kernel_rfl)
      have e5 : u 5 = .int .i64 (n : Int) := hd 5 (by omega) (by kernel_rfl)
      rw [e4, e5]
      go_simp
      first | rw [H2.out] | rw [H2b.out] | rw [H2c.out]
      exact ⟨rfl, Below.refl _ _, fun h => by cases h⟩
    · go_simp
      exact ⟨rfl, Below.refl _ _, fun h => by cases h⟩
    · have e7 : u 7 = .int .i64 (p : Int) := hd 7 (by omega) (by kernel_rfl)
      rw [e7]
      go_simp
      try rw [H3.out]
      exact ⟨rfl, Below.refl _ _, fun h => by cases h⟩
    · go_simp
      exact ⟨rfl, Below.refl _ _, fun h => by cases h⟩
    · have e9 : u 9 = .slice a l c := hd 9 (by omega) (by kernel_rfl)
      rw [e9]
      go_simp
      exact ⟨rfl, Below.refl _ _, fun h => by cases h⟩
    · have e8 : u 8 = .int .i64 ((p : Int) + 1) := hd 8 (by omega) (by kernel_rfl)
      have e10 : u 10 = .int .i64 (l : Int) := hd 10 (by omega) (by kernel_rfl)
      rw [e8, e10]
      go_simp
      rw [H4.out]
      exact ⟨rfl, Below.refl _ _, fun h => by cases h⟩
    · go_simp
      exact ⟨rfl, Below.refl _ _, fun h => by cases h⟩
    · have e11 : u 11 = .int .i64 (P1 : Int) := hd 11 (by omega) (by kernel_rfl)
      have e12 : u 12 = .int .i64 (n : Int) := hd 12 (by omega) (by kernel_rfl)
      rw [e11, e12]
      go_simp
      first | rw [H5.out] | rw [H5b.out] | rw [H5c.out]
      exact ⟨rfl, Below.refl _ _, fun h => by cases h⟩
    · have e0 : u 0 = .slice a l c := hd 0 (by omega) (by kernel_rfl)
      have e6 : u 6 = .int .i64 (lo : Int) := hd 6 (by omega) (by kernel_rfl)
      have e13 : u 13 = .int .i64 (hi : Int) := hd 13 (by omega) (by kernel_rfl)
      rw [e0, e6, e13]
      go_simp
      rw [HA.out]
      unfold pcA
      exact ⟨rfl, Below.refl _ _, fun h => by cases h⟩
  case rest =>
    intro u wz hb hf hp
    have f0 : u 0 = .slice a l c := hf 0 (by omega)
    have f1 : u 1 = .int .i64 (p : Int) := hf 1 (by omega)
    have f2 : u 2 = .slice a l c := hf 2 (by omega)
    have f3 : u 3 = .int .i64 (l : Int) := hf 3 (by omega)
    have f4 : u 4 = .int .i64 (P0 : Int) := hf 4 (by omega)
    have f5 : u 5 = .int .i64 (n : Int) := hf 5 (by omega)
    have f6 : u 6 = .int .i64 (lo : Int) := hf 6 (by omega)
    have f7 : u 7 = .int .i64 (p : Int) := hf 7 (by omega)
    have f8 : u 8 = .int .i64 ((p : Int) + 1) := hf 8 (by omega)
    have f9 : u 9 = .slice a l c := hf 9 (by omega)
    have f10 : u 10 = .int .i64 (l : Int) := hf 10 (by omega)
    have f11 : u 11 = .int .i64 (P1 : Int) := hf 11 (by omega)
    have f12 : u 12 = .int .i64 (n : Int) := hf 12 (by omega)
    have f13 : u 13 = .int .i64 (hi : Int) := hf 13 (by omega)
    have f14 : u 14 = .slice A (hi - lo) (c - lo) := hf 14 (by omega)
    refine UptoW.rest 1 15 (by rfl) (by kernel_rfl) ?_
    simp only [List.take, List.drop, putOps, Act.put, List.setIfInBounds_toArray, List.set_cons_zero, List.set_cons_succ, Nat.reduceAdd, f0, f1, f2, f3, f4, f5, f6, f7, f8, f9, f10, f11, f12, f13, f14]
    clear f0 f1 f2 f3 f4 f5 f6 f7 f8 f9 f10 f11 f12 f13 f14 hf hp
    go_wp2_with fail
    go_ret
    exact ⟨by rw [← HA.out]; rfl, hb⟩
end Go.Proofs.Yticcoacoepajpaa.V
