/-
  What goes with sums and with products by a number. Contracts: array.Do of a Dot of two matrices, and of a Turn of one. What Do makes of one array, in what it makes go with sums. Dimensions of what goes with sums: what may be asked, and where entries lie. What Do makes of one array, kind by kind. Contracts: adjointlaw2.times, adjointlaw2.one of a Turn, adjointlaw2.alive. Contract: adjointlaw2.alive.
-/
import Derived.Test.YtcidhbkdaleomaaLK44L
import Derived.Test.YtcidhbkdaleomaaLK35L
namespace Go.Proofs.Ytcidhbkdaleomaa.V
set_option maxRecDepth 20000
open Go.RowKit

/-- A table times a list. -/
def mvL (M : Nat → Nat → Int) (xs : List Int) (n N : Nat) : List Int := (List.range N).map fun i => IntKind.i64.wrap (sumN (fun j => M i j * xs[j]?.getD 0) n)
theorem mvL_at (M : Nat → Nat → Int) (xs : List Int) (n N i : Nat) (h : i < N) : (mvL M xs n N)[i]?.getD 0 = IntKind.i64.wrap (sumN (fun j => M i j * xs[j]?.getD 0) n) := by simp [mvL, h]
def Bnd (xs : List Int) : Prop := ∀ x ∈ xs, -9223372036854775808 ≤ x ∧ x ≤ 9223372036854775807
def IsLin (f : List Int → List Int) (n N : Nat) : Prop := ∃ M, ∀ xs, xs.length = n → Bnd xs → f xs = mvL M xs n N
theorem twoL_bnd (k : Int) (hk : k = 3 ∨ k = 4 ∨ k = 5) (xs ys : List Int) (n : Nat) : Bnd (twoL k xs ys n) := by
  intro x hx
  simp only [twoL, List.mem_map] at hx
  obtain ⟨i, _, rfl⟩ := hx
  rcases hk with rfl | rfl | rfl <;> simp only [twoV] <;> rw [w64] <;> exact wrap_bd _
theorem rep_at (n i : Nat) (k : Int) (h : i < n) : (List.replicate n k)[i]?.getD 0 = k := by simp [h]

/-- What is made of a sum is the sum of what is made. -/
theorem lin_law {f : List Int → List Int} {n N : Nat} (hf : IsLin f n N) (k : Int) (xs ys : List Int) (lx : xs.length = n) (ly : ys.length = n) (bx : Bnd xs) (bY : Bnd ys) :
    f (twoL 3 xs (twoL 5 (List.replicate n k) ys n) n) = twoL 3 (f xs) (twoL 5 (List.replicate N k) (f ys) N) N := by
  obtain ⟨M, hM⟩ := hf
  rw [hM _ (twoL_length _ _ _ _) (twoL_bnd 3 (.inl rfl) _ _ _), hM xs lx bx, hM ys ly bY]
  show (List.range N).map _ = (List.range N).map _
  refine List.map_congr_left (fun i hi => ?_)
  have hi' : i < N := by simpa using hi
  rw [mvL_at _ _ _ _ _ hi', twoL_at _ _ _ _ _ hi', rep_at _ _ _ hi', mvL_at _ _ _ _ _ hi']
  have e5 : ∀ a b : Int, twoV 5 a b = IntKind.i64.wrap (a * b) := fun a b => by simp [twoV, w64]
  have e3 : ∀ a b : Int, twoV 3 a b = IntKind.i64.wrap (a + b) := fun a b => by simp [twoV, w64]
  rw [e5, e3, wrap_mulr, wrap_addl, wrap_addr]
  rw [wrap_sum (g := fun j => M i j * xs[j]?.getD 0 + k * (M i j * ys[j]?.getD 0)) n (fun j hj => ?_)]
  · rw [sumN_add, sumN_mull]
  · rw [twoL_at _ _ _ _ _ hj, twoL_at _ _ _ _ _ hj, rep_at _ _ _ hj, e5, e3, wrap_mulr, ← wrap_mulr, wrap_addr, wrap_mulr, Int.mul_add]
    congr 1
    rw [← Int.mul_assoc, ← Int.mul_assoc, Int.mul_comm (M i j) k]

theorem sumN_delta (a : Nat) (c : Int) (x : Nat → Int) : ∀ n, sumN (fun j => (if a = j then c else 0) * x j) n = if a < n then c * x a else 0
  | 0 => by simp [sumN]
  | n + 1 => by
    rw [sumN, sumN_delta a c x n]
    by_cases e : a = n
    · subst e
      rw [if_neg (Nat.lt_irrefl a), if_pos rfl, if_pos (Nat.lt_succ_self a), Int.zero_add]
    · rw [if_neg e, Int.zero_mul, Int.add_zero]
      by_cases h : a < n
      · rw [if_pos h, if_pos (by omega)]
      · rw [if_neg h, if_neg (by omega)]
/-- A sum of some entries, times numbers. -/
theorem lin_gather {f : List Int → List Int} {n N K : Nat} (c : Nat → Nat → Int) (a : Nat → Nat → Nat) (h : ∀ xs, xs.length = n → Bnd xs → f xs = (List.range N).map fun i => IntKind.i64.wrap (sumN (fun k => c i k * xs[a i k]?.getD 0) K)) : IsLin f n N := by
  refine ⟨fun i j => sumN (fun k => if a i k = j then c i k else 0) K, fun xs lx bx => ?_⟩
  rw [h xs lx bx]
  show (List.range N).map _ = (List.range N).map _
  refine List.map_congr_left (fun i _ => ?_)
  congr 1
  have e1 : (sumN (fun j => sumN (fun k => if a i k = j then c i k else 0) K * xs[j]?.getD 0) n) = sumN (fun j => sumN (fun k => (if a i k = j then c i k else 0) * xs[j]?.getD 0) K) n := sumN_ext n (fun j _ => sumN_mulr _ _ _)
  show _ = sumN (fun j => sumN (fun k => if a i k = j then c i k else 0) K * xs[j]?.getD 0) n
  rw [e1, sumN_swap (fun k j => (if a i k = j then c i k else 0) * xs[j]?.getD 0) K n]
  refine sumN_ext K (fun k _ => ?_)
  rw [sumN_delta (a i k) (c i k) (fun j => xs[j]?.getD 0) n]
  by_cases hk : a i k < n
  · rw [if_pos hk]
  · rw [if_neg hk, List.getElem?_eq_none (by omega)]; simp
theorem bnd_at {xs : List Int} (h : Bnd xs) (i : Nat) : -9223372036854775808 ≤ xs[i]?.getD 0 ∧ xs[i]?.getD 0 ≤ 9223372036854775807 := by
  by_cases hi : i < xs.length
  · exact h _ (mem_getD xs i hi)
  · rw [List.getElem?_eq_none (by omega)]; simp
/-- One entry, times one or nothing. -/
theorem lin_one {f : List Int → List Int} {n N : Nat} (c : Nat → Int) (a : Nat → Nat) (hc : ∀ i, c i = 0 ∨ c i = 1) (h : ∀ xs, xs.length = n → Bnd xs → f xs = (List.range N).map fun i => c i * xs[a i]?.getD 0) : IsLin f n N := by
  refine lin_gather (K := 1) (fun i _ => c i) (fun i _ => a i) (fun xs lx bx => ?_)
  rw [h xs lx bx]
  refine List.map_congr_left (fun i _ => ?_)
  have := bnd_at bx (a i)
  simp only [sumN, Int.zero_add]
  rcases hc i with e | e
  · rw [e, Int.zero_mul, wrap_in _ (by omega) (by omega)]
  · rw [e, Int.one_mul, wrap_in _ this.1 this.2]
theorem list_map_range (l : List Int) (N : Nat) (h : l.length = N) : l = (List.range N).map fun i => l[i]?.getD 0 := by
  rw [← h, map_getD_range]
theorem lin_look (Q : List Int) (n : Nat) : IsLin (fun xs => lookL xs Q) n Q.length := by
  refine lin_one (fun _ => 1) (fun i => (Q[i]?.getD 0).toNat) (fun _ => .inr rfl) (fun xs _ _ => ?_)
  show lookL xs Q = _
  rw [list_map_range (lookL xs Q) Q.length (lookL_length _ _)]
  refine List.map_congr_left (fun i hi => ?_)
  rw [lookL_at _ _ _ (by simpa using hi), Int.one_mul]
theorem lin_id (n : Nat) : IsLin (fun xs => xs) n n := by
  refine lin_one (fun _ => 1) (fun i => i) (fun _ => .inr rfl) (fun xs lx _ => ?_)
  show xs = _
  conv => lhs; rw [list_map_range xs n lx]
  exact List.map_congr_left (fun i _ => by rw [Int.one_mul])
theorem lin_take (ys : List Int) (long D n N : Nat) : IsLin (fun xs => takeL xs ys long D N) n N := by
  refine lin_one (fun j => if 0 ≤ ys[j / long]?.getD 0 ∧ ys[j / long]?.getD 0 < (D : Int) then 1 else 0) (fun j => (ys[j / long]?.getD 0).toNat * long + j % long) (fun j => by by_cases h : 0 ≤ ys[j / long]?.getD 0 ∧ ys[j / long]?.getD 0 < (D : Int); exact .inr (if_pos h); exact .inl (if_neg h)) (fun xs _ _ => ?_)
  show takeL xs ys long D N = _
  unfold takeL
  refine List.map_congr_left (fun j _ => ?_)
  by_cases h : 0 ≤ ys[j / long]?.getD 0 ∧ ys[j / long]?.getD 0 < (D : Int)
  · rw [if_pos h, if_pos h, Int.one_mul]
  · rw [if_neg h, if_neg h, Int.zero_mul]
theorem lin_put (ys : List Int) (long m n N : Nat) : IsLin (fun xs => putL xs ys long N m) n N := by
  refine lin_gather (K := m) (fun i t => if ys[t]?.getD 0 = ((i / long : Nat) : Int) then 1 else 0) (fun i t => t * long + i % long) (fun xs _ _ => ?_)
  show putL xs ys long N m = _
  unfold putL
  refine List.map_congr_left (fun i _ => ?_)
  congr 1
  refine sumN_ext m (fun t _ => ?_)
  by_cases h : ys[t]?.getD 0 = ((i / long : Nat) : Int)
  · rw [if_pos h, if_pos h, Int.one_mul]
  · rw [if_neg h, if_neg h, Int.zero_mul]
theorem addS_at {zs Q xs : List Int} (hz : Bnd zs) (i : Nat) (hi : i < zs.length) : ∀ k, (∀ j : Nat, j < k → 0 ≤ Q[j]?.getD 0 ∧ Q[j]?.getD 0 < (zs.length : Int)) → (addS zs Q xs k)[i]?.getD 0 = IntKind.i64.wrap (zs[i]?.getD 0 + sumN (fun j => (if Q[j]?.getD 0 = (i : Int) then 1 else 0) * xs[j]?.getD 0) k)
  | 0, _ => by
    have := bnd_at hz i
    rw [addS, sumN, Int.add_zero, wrap_in _ this.1 this.2]
  | k + 1, h => by
    have ih := addS_at (xs := xs) hz i hi k (fun j hj => h j (by omega))
    have hq := h k (by omega)
    rw [addS, sumN]
    by_cases e : Q[k]?.getD 0 = (i : Int)
    · rw [if_pos e, e, Int.toNat_natCast, List.getElem?_set_self (by rw [addS_length]; exact hi)]
      simp only [Option.getD_some]
      rw [ih, w64, wrap_addl, Int.one_mul, Int.add_assoc]
    · rw [if_neg e, List.getElem?_set_ne (by omega), ih, Int.zero_mul, Int.add_zero]
theorem lin_land (Q : List Int) (n N : Nat) (h : ∀ j, j < n → 0 ≤ Q[j]?.getD 0 ∧ Q[j]?.getD 0 < N) : IsLin (fun xs => addS (List.replicate N 0) Q xs n) n N := by
  refine lin_gather (K := n) (fun i j => if Q[j]?.getD 0 = (i : Int) then 1 else 0) (fun _ j => j) (fun xs _ _ => ?_)
  show addS (List.replicate N 0) Q xs n = _
  rw [list_map_range (addS (List.replicate N 0) Q xs n) N (by rw [addS_length]; simp)]
  refine List.map_congr_left (fun i hi => ?_)
  have hi' : i < N := by simpa using hi
  rw [addS_at (fun x hx => by simp at hx; rw [hx.2]; omega) i (by simpa using hi') n (fun j hj => by simpa using h j hj), replicate_zero_at, Int.zero_add]
theorem lin_dot (Q y : List Int) (long rows cols n N : Nat) (hb : ∀ i, i < N → i / cols * long + long ≤ Q.length) : IsLin (fun xs => dotF (lookL xs Q) y long rows cols N) n N := by
  refine lin_gather (K := long) (fun i k => (sub y ((i / cols / rows * cols + i % cols) * long) long)[k]?.getD 0) (fun i k => (Q[i / cols * long + k]?.getD 0).toNat) (fun xs _ _ => ?_)
  show dotF (lookL xs Q) y long rows cols N = _
  unfold dotF
  refine List.map_congr_left (fun i hi => ?_)
  have hi' : i < N := by simpa using hi
  rw [innS_sum]
  congr 1
  refine sumN_ext long (fun k hk => ?_)
  have := hb i hi'
  rw [sub_at (lookL xs Q) _ _ _ hk, lookL_at _ _ _ (by omega), Int.mul_comm]
end Go.Proofs.Ytcidhbkdaleomaa.V
namespace Go.Proofs.Ytcidhbkdaleomaa.V
set_option maxRecDepth 20000
open Go.RowKit

/-- The arrays of a product. -/
def twoV2 (da : Option Addr) (dl dc : Nat) (ds : List Int) (xa : Option Addr) (n xc : Nat) (ea : Option Addr) (el ec : Nat) (es : List Int) (ya : Option Addr) (m yc : Nat) (j : Nat) : ArrV := if j = 0 then ⟨da, dl, dc, ds, xa, n, xc⟩ else ⟨ea, el, ec, es, ya, m, yc⟩
theorem arrs_two {w : World} {b off : Nat} {da : Option Addr} {dl dc : Nat} {ds : List Int} {xa : Option Addr} {n xc : Nat} {ea : Option Addr} {el ec : Nat} {es : List Int} {ya : Option Addr} {m yc : Nat} (c0 : w.cell? ⟨b, off, none⟩ = some (.slice da dl dc)) (c1 : w.cell? ⟨b, off + 1, none⟩ = some (.slice xa n xc)) (c2 : w.cell? ⟨b, off + 2, none⟩ = some (.slice ea el ec)) (c3 : w.cell? ⟨b, off + 3, none⟩ = some (.slice ya m yc)) (hd : Lst w da dl dc ds) (he : Lst w ea el ec es) :
    Arrs w (some ⟨b, off, none⟩) 2 (twoV2 da dl dc ds xa n xc ea el ec es ya m yc) := .inr ⟨b, off, rfl, fun j hj => by
  have : j = 0 ∨ j = 1 := by omega
  rcases this with rfl | rfl
  · exact ⟨c0, c1, hd⟩
  · exact ⟨c2, c3, he⟩⟩

end Go.Proofs.Ytcidhbkdaleomaa.V
namespace Go.Proofs.Ytcidhbkdaleomaa.V
set_option maxRecDepth 20000
open Go.RowKit

theorem dimsP_parts {k : Int} {es ps lo hi st : List Int} {xss : List (List Int)} (h : (dimsP k es ps lo hi st xss).2 = 0) : (shapeP k es ps lo hi st xss).2 = 0 ∧ sizeE (shapeP k es ps lo hi st xss).1 = 0 ∧ (dimsP k es ps lo hi st xss).1 = (shapeP k es ps lo hi st xss).1 := by
  unfold dimsP at h ⊢
  by_cases c1 : takesE k xss.length ≠ 0
  · rw [if_pos c1] at h; exact absurd h c1
  rw [if_neg c1] at h ⊢
  by_cases c2 : sizesE xss ≠ 0
  · rw [if_pos c2] at h; exact absurd h c2
  rw [if_neg c2] at h ⊢
  by_cases c3 : (shapeP k es ps lo hi st xss).2 ≠ 0
  · rw [if_pos c3] at h; exact absurd h c3
  rw [if_neg c3] at h ⊢
  by_cases c4 : sizeE (shapeP k es ps lo hi st xss).1 ≠ 0
  · rw [if_pos c4] at h; exact absurd h c4
  rw [if_neg c4]
  exact ⟨Decidable.not_not.1 c3, Decidable.not_not.1 c4, rfl⟩
theorem arrsE_congr {v v' : Nat → ArrV} : ∀ m, (∀ j, j < m → (v j).ds = (v' j).ds ∧ (v j).xl = (v' j).xl) → arrsE v m = arrsE v' m
  | 0, _ => rfl
  | m + 1, h => by rw [arrsE, arrsE, arrsE_congr m (fun j hj => h j (by omega)), (h m (by omega)).1, (h m (by omega)).2]
theorem doE_congr {k : Int} {es ps lo hi st : List Int} {m : Nat} {v v' : Nat → ArrV} (h : ∀ j, j < m → (v j).ds = (v' j).ds ∧ (v j).xl = (v' j).xl) : doE k es ps lo hi st m v = doE k es ps lo hi st m v' := by
  have hd : dimsOf m v = dimsOf m v' := by
    unfold dimsOf
    exact List.map_congr_left (fun j hj => (h j (by simpa using hj)).1)
  unfold doE
  rw [arrsE_congr m h, hd]
/-- One array, of which nothing but its dimensions and how many numbers it has is known. -/
def oneV (ds : List Int) (n : Nat) (_ : Nat) : ArrV := ⟨none, 0, 0, ds, none, n, 0⟩
theorem oneV_parts {k : Int} {es ps lo hi st ds : List Int} {n : Nat} (h : doE k es ps lo hi st 1 (oneV ds n) = 0) : arrE ds n = 0 ∧ (shapeP k es ps lo hi st [ds]).2 = 0 ∧ sizeE (shapeP k es ps lo hi st [ds]).1 = 0 ∧ (dimsP k es ps lo hi st [ds]).1 = (shapeP k es ps lo hi st [ds]).1 := by
  obtain ⟨_, c2, c3⟩ := doE_ok h
  exact ⟨arrsE_ok 1 c2 0 (by omega), dimsP_parts c3⟩

/-- What Do answers, where it tells no error. -/
def DoesTo (W : World) (L f : List Int) (N : Nat) (e : Ending) (W' : World) : Prop :=
  ∃ (Z : Option Addr) (nz cz G : Nat), e = .returned (.tuple #[.agg #[.slice Z nz cz, .slice (some ⟨G, 0, none⟩) N N], .int .i64 0]) ∧ (Ints W' Z nz L ∧ nz ≤ cz) ∧ Ints W' (some ⟨G, 0, none⟩) N f ∧ W.heap.size ≤ G
/-- Of one array Do makes what goes with sums. -/
def Lin1 (w : World) (op : Value) (ds : List Int) (n : Nat) : Prop :=
  ∃ (L : List Int) (N : Nat) (f : List Int → List Int), IsLin f n N ∧ arrE L N = 0 ∧ ∀ (W : World) (b off cap : Nat) (da : Option Addr) (dl dc : Nat) (xa : Option Addr) (xc : Nat) (xs : List Int),
    Below w.heap.size w W → W.cell? ⟨b, off, none⟩ = some (.slice da dl dc) → W.cell? ⟨b, off + 1, none⟩ = some (.slice xa n xc) → Lst W da dl dc ds → Ints W xa n xs → n ≤ xc →
    Calls Try.prog 24 #[op, .slice (some ⟨b, off, none⟩) 1 cap] W fun e W' => DoesTo W L (f xs) N e W' ∧ Below W.heap.size W W'
theorem arrE_of {L : List Int} (h : sizeE L = 0) : arrE L (prod L).toNat = 0 ∧ ((prod L).toNat : Int) = prod L := by
  have hp : 0 ≤ prod L := by
    rcases dims_cases h with ⟨_, _, h3⟩ | ⟨_, _, _, h4⟩ <;> omega
  have he : ((prod L).toNat : Int) = prod L := by omega
  refine ⟨?_, he⟩
  unfold arrE
  rw [if_neg (by rw [h]; simp), if_neg (by rw [size_prod h, he]; simp)]
theorem off_new {w W : World} {X : Option Addr} {n g : Nat} {xs : List Int} (h : Ints w X n xs) (hn : 0 < n) (hg : w.heap.size ≤ g) : OffG g X := fun b o e => by
  obtain ⟨b', o', e', hb', _⟩ := h.at hn
  rw [e] at e'; cases e'
  have := W.heap.size
  omega

/-- What looks at an array through a view. -/
theorem do_look (k : Int) (hk : k = 9 ∨ k = 11 ∨ k = 13 ∨ k = 15) (x : Int) (ea : Option Addr) (el ec : Nat) (es : List Int) (pa : Option Addr) (pl pc : Nat) (ps : List Int) (la : Option Addr) (ll lc : Nat) (lo : List Int) (ha : Option Addr) (hl hc : Nat) (hi : List Int) (ta : Option Addr) (tl tc : Nat) (st : List Int) (ds : List Int) (n : Nat) (S : Int) (D Tt : List Int) (w : World)
    (he : Lst w ea el ec es) (hp : Lst w pa pl pc ps) (hlo : Lst w la ll lc lo) (hhi : Lst w ha hl hc hi) (hst : Lst w ta tl tc st) (b0 : el ≤ 1048576) (b1 : pl ≤ 1048576) (b2 : ll ≤ 1048576) (b3 : hl ≤ 1048576) (b4 : tl ≤ 1048576) (hE : doE k es ps lo hi st 1 (oneV ds n) = 0) (hL : (shapeP k es ps lo hi st [ds]).1 = D) (hwr : wrongE S D Tt = 0) (hq : ∀ i : Nat, i < (prod D).toNat → ∃ p : Nat, p < (prod ds).toNat ∧ (readsV S D Tt)[i]?.getD 0 = (p : Int))
    (hseen : ∀ (W : World) (da : Option Addr) (dl dc : Nat), Below w.heap.size w W → Ints W da dl ds → Calls Try.prog 41 #[.agg #[.int .i64 k, .slice ea el ec, .slice pa pl pc, .slice la ll lc, .slice ha hl hc, .slice ta tl tc, .int .i64 x], .slice da dl dc] W fun e W' => Seen S D Tt e W' ∧ Below W.heap.size W W') :
    Lin1 w (.agg #[.int .i64 k, .slice ea el ec, .slice pa pl pc, .slice la ll lc, .slice ha hl hc, .slice ta tl tc, .int .i64 x]) ds n := by
  obtain ⟨hae, hs1, hs2, hs3⟩ := oneV_parts hE
  rw [hL] at hs2 hs3
  obtain ⟨haL, hN⟩ := arrE_of hs2
  have hn := (arrE_ok hae).2.1
  have hlen : (readsV S D Tt).length = (prod D).toNat := readsV_length _ _ _
  have hlin := lin_look (readsV S D Tt) n
  rw [hlen] at hlin
  refine ⟨D, (prod D).toNat, fun xs => lookL xs (readsV S D Tt), hlin, haL, ?_⟩
  intro W b off cap da dl dc xa xc xs hW c0 c1 hd hx hxc
  have hn6 := (arrE_ok haL).2.2
  have hbk := lt_of_cell c0
  refine Do_good k x ea el ec es pa pl pc ps la ll lc lo ha hl hc hi ta tl tc st (some ⟨b, off, none⟩) 1 cap (fun _ => ⟨da, dl, dc, ds, xa, n, xc⟩) D (prod D).toNat (lookL xs (readsV S D Tt)) W (he.below hW) (hp.below hW) (hlo.below hW) (hhi.below hW) (hst.below hW) b0 b1 b2 b3 b4 (.inr ⟨b, off, rfl, fun j hj => by obtain rfl : j = 0 := by { omega }; exact ⟨c0, c1, hd⟩⟩) (by omega) ((doE_congr (fun j _ => ⟨rfl, rfl⟩)).trans hE) hs3.symm hN ((lookL_length _ _).trans hlen) (lookL_bd hx.2.2.1) ?_
  intro hpos W2 Z nz cz g hW2 hg _ _ hrow
  have hn0 : 0 < n := by
    obtain ⟨p, hp', _⟩ := hq 0 hpos
    omega
  have hWW := hW.trans (hW2.mono hW.size)
  exact work_look k x hk (.slice ea el ec) (.slice pa pl pc) (.slice la ll lc) (.slice ha hl hc) (.slice ta tl tc) Z nz cz g (prod D).toNat b off 1 cap (.slice da dl dc) xa n xc xs (readsV S D Tt) W2 (by omega) ((hW2.cell (p := ⟨b, off, none⟩) (lt_of_cell c0)).trans c0) ((hW2.cell (p := ⟨b, off + 1, none⟩) (lt_of_cell c1)).trans c1) (hx.below hW2) (off_new (W := W) hx hn0 hg) hrow (by omega) hlen (fun i hi => by
      obtain ⟨p, hp', e⟩ := hq i hi
      rw [e]; omega) (fun W3 hW3 => lookedAt_gen k x (.slice ea el ec) (.slice pa pl pc) (.slice la ll lc) (.slice ha hl hc) (.slice ta tl tc) da dl dc (.slice xa n xc) S D Tt W3 (fun W4 hW4 => by
        have h3 := hWW.trans (hW3.mono hWW.size)
        have h4 := h3.trans (hW4.mono h3.size)
        have g3 := hW2.trans (hW3.mono hW2.size)
        exact hseen W4 da dl dc h4 (hd.1.below (g3.trans (hW4.mono g3.size)))) hwr)
end Go.Proofs.Ytcidhbkdaleomaa.V
namespace Go.Proofs.Ytcidhbkdaleomaa.V
set_option maxRecDepth 20000
open Go.RowKit

theorem cut_whole {ds lo hi st : List Int} (h1 : sizeE ds = 0) (hl : lensB ds.length lo hi st = true) (hb : anyBad ds lo hi st = false) : cutE 0 ds (stepsV ds) lo hi st = 0 := by
  have hbw : beyondB (cutAcc 0 (stepsV ds) lo ds.length) (cutS (stepsV ds) st) = false := by
    have ha := cutAcc_whole h1 hb ds.length (Nat.le_refl _)
    have h6 := (sizeE_ok h1).1
    refine far_of (by omega) fun x hx => ?_
    simp only [cutS, List.mem_map, List.mem_range, stepsV_len] at hx
    obtain ⟨k, hk, rfl⟩ := hx
    have h4 := badCut_false (of_anyBad_false hb k hk)
    have h5 := steps_bd h1 k
    have h7 : 0 ≤ st[k]?.getD 0 * (stepsV ds)[k]?.getD 0 := Int.mul_nonneg (by omega) h5.1
    have h8 : st[k]?.getD 0 * (stepsV ds)[k]?.getD 0 ≤ 4096 * 65536 := Int.mul_le_mul h4.2.2.2.2 h5.2 h5.1 (by omega)
    omega
  unfold cutE
  rw [if_neg (by simp [wrong_whole h1]), if_pos hl, if_neg (by rw [hb]; simp), if_neg (by rw [hbw]; simp)]

theorem mem_freeL {xs : List Int} : ∀ {n : Nat} {x : Int}, x ∈ freeL xs n ↔ ∃ k : Nat, k < n ∧ x = (k : Int) ∧ inB xs k = false
  | 0, x => by simp [freeL]
  | n + 1, x => by
    rw [freeL, List.mem_append, mem_freeL]
    constructor
    · rintro (⟨k, hk, h⟩ | h)
      · exact ⟨k, by omega, h⟩
      · by_cases c : inB xs n = true
        · rw [if_pos c] at h; cases h
        · rw [if_neg c] at h
          exact ⟨n, by omega, by simpa using h, by simpa using c⟩
    · rintro ⟨k, hk, h1, h2⟩
      by_cases e : k = n
      · subst e
        exact .inr (by rw [if_neg (by rw [h2]; simp)]; simpa using h1)
      · exact .inl ⟨k, by omega, h1, h2⟩
theorem inB_iff {xs : List Int} {k : Nat} : inB xs k = true ↔ (k : Int) ∈ xs := by simp [inB]
theorem inB_not {xs : List Int} {k : Nat} : inB xs k = false ↔ (k : Int) ∉ xs := by rw [← inB_iff]; simp
theorem freeL_congr {xs ys : List Int} : ∀ n, (∀ k : Nat, k < n → inB xs k = inB ys k) → freeL xs n = freeL ys n
  | 0, _ => rfl
  | n + 1, h => by rw [freeL, freeL, freeL_congr n (fun k hk => h k (by omega)), h n (by omega)]
theorem freeL_count : ∀ (n : Nat) (xs : List Int), xs.Nodup → (∀ x ∈ xs, 0 ≤ x ∧ x < n) → (freeL xs n).length + xs.length = n
  | 0, xs, _, h => by
    have : xs = [] := by
      cases xs with
      | nil => rfl
      | cons a l => have := h a (by simp); omega
    rw [this]; rfl
  | n + 1, xs, hn, h => by
    rw [freeL]
    by_cases c : inB xs n = true
    · rw [if_pos c, List.append_nil]
      have hm := inB_iff.1 c
      have ih := freeL_count n (xs.erase (n : Int)) (hn.erase _) (fun x hx => by
        have h1 := List.mem_of_mem_erase hx
        have h2 : x ≠ (n : Int) := ((hn.mem_erase_iff).1 hx).1
        have := h x h1
        omega)
      rw [List.length_erase_of_mem hm] at ih
      have hc : freeL xs n = freeL (xs.erase (n : Int)) n := freeL_congr n (fun k hk => by
        rw [Bool.eq_iff_iff, inB_iff, inB_iff, hn.mem_erase_iff]
        constructor
        · intro h; exact ⟨by omega, h⟩
        · intro h; exact h.2)
      have hp := List.length_pos_of_mem hm
      rw [hc]; omega
    · rw [if_neg c]
      have hnm : (n : Int) ∉ xs := fun h => c (inB_iff.2 h)
      have ih := freeL_count n xs hn (fun x hx => by
        have := h x hx
        have : x ≠ (n : Int) := fun e => hnm (e ▸ hx)
        omega)
      simp; omega
theorem rise_up {l : List Int} {n : Nat} (h : RiseOk l n) : RiseOk l (n + 1) := fun i hi => by
  have := h i hi
  exact ⟨this.1, by omega, this.2.2⟩
theorem rise_snoc {l : List Int} {n : Nat} (h : RiseOk l n) : RiseOk (l ++ [(n : Int)]) (n + 1) := fun i hi => by
  simp only [List.length_append, List.length_cons, List.length_nil] at hi
  by_cases e : i < l.length
  · have h1 := h i e
    rw [List.getElem?_append_left e]
    refine ⟨h1.1, by omega, fun h0 => ?_⟩
    rw [List.getElem?_append_left (by omega)]
    exact h1.2.2 h0
  · obtain rfl : i = l.length := by omega
    rw [List.getElem?_append_right (Nat.le_refl _)]
    simp only [Nat.sub_self, List.getElem?_cons_zero, Option.getD_some]
    refine ⟨by omega, by omega, fun h0 => ?_⟩
    rw [List.getElem?_append_left (by omega)]
    exact (h (l.length - 1) (by omega)).2.1
theorem freeL_rise (xs : List Int) : ∀ n, RiseOk (freeL xs n) n
  | 0 => fun i hi => by simp [freeL] at hi
  | n + 1 => by
    rw [freeL]
    by_cases c : inB xs n = true
    · rw [if_pos c, List.append_nil]; exact rise_up (freeL_rise xs n)
    · rw [if_neg c]; exact rise_snoc (freeL_rise xs n)
theorem rise_nodup {l : List Int} {n : Nat} (h : RiseOk l n) : l.Nodup := (once_iff.1 (once_of_rise h)).2
theorem taken_at (ds ps : List Int) (j : Nat) (h : j < ps.length) : (taken ds ps)[j]?.getD 0 = ds[(ps[j]?.getD 0).toNat]?.getD 0 := by simp [taken, h]
theorem taken_append (ds ps qs : List Int) : taken ds (ps ++ qs) = taken ds ps ++ taken ds qs := by simp [taken]

/-- Where the entries of what is summed go. -/
theorem sum_spread {ds ps : List Int} (hz : sizeE ds = 0) (hL : sizeE (taken ds (freeL ps ds.length)) = 0) : sprE 0 (taken ds (freeL ps ds.length)) (stepsV (taken ds (freeL ps ds.length))) ds (freeL ps ds.length) = 0 := by
  unfold sprE
  rw [if_neg (by rw [wrong_whole hL]; simp), if_neg (by rw [hz]; simp), if_pos ⟨(taken_length _ _).symm, (riseB_iff _ _).2 (freeL_rise _ _)⟩, if_neg]
  rw [anyMis_false (fun j hj => ?_)]
  · simp
  · unfold misAt
    rw [taken_at _ _ _ hj]
    simp

theorem of_anyPad_false {n : Nat} {lo hi st : List Int} (h : anyPad n lo hi st = false) (j : Nat) (hj : j < n) : (0 ≤ lo[j]?.getD 0 ∧ lo[j]?.getD 0 ≤ 4096) ∧ (0 ≤ hi[j]?.getD 0 ∧ hi[j]?.getD 0 ≤ 4096) ∧ 1 ≤ st[j]?.getD 0 ∧ st[j]?.getD 0 ≤ 4096 := by
  unfold anyPad at h
  rw [List.any_eq_false] at h
  have := h j (by simpa using hj)
  simp only [padBad, Bool.or_eq_true, decide_eq_true_eq] at this
  omega
theorem kept_pad {d l t : Int} (hd : 0 ≤ d) (ht : 1 ≤ t) : keptN l (l + (if 0 < d then (d - 1) * t + 1 else 0)) t = d := by
  unfold keptN
  by_cases h : 0 < d
  · rw [if_pos h]
    have e : l + ((d - 1) * t + 1) - l + t - 1 = t * d := by rw [Int.sub_mul, Int.one_mul, Int.mul_comm t d]; omega
    rw [e, Int.mul_ediv_cancel_left _ (by omega)]
  · rw [if_neg h]
    have : d = 0 := by omega
    subst this
    have e : l + 0 - l + t - 1 = t - 1 := by omega
    rw [e, Int.ediv_eq_zero_of_lt (by omega) (by omega)]
/-- What is padded is cut out again. -/
theorem pad_cut {ds lo hi st : List Int} (hz : sizeE ds = 0) (hl : lensB ds.length lo hi st = true) (hb : anyPad ds.length lo hi st = false) :
    lensB (padD ds lo hi st).length lo (endL (padD ds lo hi st) hi) st = true ∧ anyBad (padD ds lo hi st) lo (endL (padD ds lo hi st) hi) st = false ∧ cutD (padD ds lo hi st) lo (endL (padD ds lo hi st) hi) st = ds := by
  obtain ⟨l1, l2, l3⟩ := lensB_true.1 hl
  have hpl := padD_length ds lo hi st
  have he : ∀ j, j < ds.length → (endL (padD ds lo hi st) hi)[j]?.getD 0 = lo[j]?.getD 0 + (if 0 < ds[j]?.getD 0 then (ds[j]?.getD 0 - 1) * st[j]?.getD 0 + 1 else 0) := fun j hj => by
    rw [endL_at _ _ _ (by rw [hpl]; exact hj), padD_getD _ _ _ _ _ hj, padV]; omega
  have hd : ∀ j, j < ds.length → 0 ≤ ds[j]?.getD 0 := fun j hj => ((sizeE_ok hz).2.1 _ (mem_getD ds j hj)).1
  have hm : ∀ j, j < ds.length → 0 ≤ (if 0 < ds[j]?.getD 0 then (ds[j]?.getD 0 - 1) * st[j]?.getD 0 + 1 else 0) := fun j hj => by
    have := of_anyPad_false hb j hj
    split
    · have : 0 ≤ (ds[j]?.getD 0 - 1) * st[j]?.getD 0 := Int.mul_nonneg (by omega) (by omega)
      omega
    · omega
  refine ⟨?_, anyBad_false (fun j hj => ?_), ?_⟩
  · rw [lensB_true, hpl, endL_length, hpl]
    exact ⟨l1, rfl, l3⟩
  · rw [hpl] at hj
    have h1 := of_anyPad_false hb j hj
    have h2 := hm j hj
    unfold badAt badCut
    rw [he j hj, padD_getD _ _ _ _ _ hj, padV]
    simp only [Bool.or_eq_false_iff, decide_eq_false_iff_not]
    omega
  · unfold cutD
    rw [hpl]
    conv => rhs; rw [← map_getD_range ds]
    refine List.map_congr_left (fun j hj => ?_)
    have hj' : j < ds.length := by simpa using hj
    rw [he j hj', kept_pad (hd j hj') (of_anyPad_false hb j hj').2.2.1]

/-- How a Dot looks at an array is a turn. -/
theorem dot_perm {lo ps : List Int} {n : Nat} (h : Once (lo ++ ps) n) : PermOk (lo ++ freeL (lo ++ ps) n ++ ps) n := by
  obtain ⟨hb, hn⟩ := once_iff.1 h
  have hc := freeL_count n (lo ++ ps) hn hb
  have hlen : (lo ++ freeL (lo ++ ps) n ++ ps).length = n := by
    simp only [List.length_append] at hc ⊢; omega
  have hon : Once (lo ++ freeL (lo ++ ps) n ++ ps) n := by
    rw [once_iff]
    have hfb : ∀ x ∈ freeL (lo ++ ps) n, x ∉ lo ++ ps := fun x hx => by
      obtain ⟨k, _, rfl, hk⟩ := mem_freeL.1 hx
      exact inB_not.1 hk
    rw [List.nodup_append] at hn
    obtain ⟨n1, n2, n3⟩ := hn
    refine ⟨fun x hx => ?_, ?_⟩
    · rcases List.mem_append.1 hx with hx | hx
      · rcases List.mem_append.1 hx with hx | hx
        · exact hb x (List.mem_append_left _ hx)
        · exact freeL_bd _ _ x hx
      · exact hb x (List.mem_append_right _ hx)
    · rw [List.nodup_append, List.nodup_append]
      refine ⟨⟨n1, rise_nodup (freeL_rise _ _), fun a ha b hb' e => ?_⟩, n2, fun a ha b hb' e => ?_⟩
      · subst e; exact hfb a hb' (List.mem_append_left _ ha)
      · subst e
        rcases List.mem_append.1 ha with ha | ha
        · exact n3 a ha a hb' rfl
        · exact hfb a ha (List.mem_append_right _ hb')
  refine ⟨hlen, ?_⟩
  unfold Once at hon
  rw [hlen] at hon
  exact hon
end Go.Proofs.Ytcidhbkdaleomaa.V
namespace Go.Proofs.Ytcidhbkdaleomaa.V
set_option maxRecDepth 20000
open Go.RowKit

theorem lin_spread (x : Int) (ea : Option Addr) (el ec : Nat) (es : List Int) (pa : Option Addr) (pl pc : Nat) (ps : List Int) (la : Option Addr) (ll lc : Nat) (lo : List Int) (ha : Option Addr) (hl hc : Nat) (hi : List Int) (ta : Option Addr) (tl tc : Nat) (st : List Int) (ds : List Int) (n : Nat) (w : World)
    (he : Lst w ea el ec es) (hp : Lst w pa pl pc ps) (hlo : Lst w la ll lc lo) (hhi : Lst w ha hl hc hi) (hst : Lst w ta tl tc st) (b0 : el ≤ 1048576) (b1 : pl ≤ 1048576) (b2 : ll ≤ 1048576) (b3 : hl ≤ 1048576) (b4 : tl ≤ 1048576) (hE : doE 9 es ps lo hi st 1 (oneV ds n) = 0) : Lin1 w (.agg #[.int .i64 9, .slice ea el ec, .slice pa pl pc, .slice la ll lc, .slice ha hl hc, .slice ta tl tc, .int .i64 x]) ds n := by
  obtain ⟨hae, hs1, hs2, _⟩ := oneV_parts hE
  have e0 : sprE 0 ds (stepsV ds) es ps = 0 := hs1
  obtain ⟨_, _, _, t4, t5⟩ := thr_spread e0
  have hL : (shapeP 9 es ps lo hi st [ds]).1 = es := by
    show okL (sprE 0 ds (stepsV ds) es ps) (es) = _
    rw [e0]; rfl
  refine do_look 9 (by omega) x ea el ec es pa pl pc ps la ll lc lo ha hl hc hi ta tl tc st ds n (0) (es) (sprS es.length (stepsV ds) ps) w he hp hlo hhi hst b0 b1 b2 b3 b4 hE hL t4 (fun i hi' => ?_) (fun W da dl dc hW hd => ?_)
  · obtain ⟨p, h1, h2, _⟩ := t5 i hi'
    exact ⟨p, h1, h2⟩
  · refine (seen_spread 9 x da dl dc ds ea el ec es pa pl pc ps la ll lc lo ha hl hc hi ta tl tc st W hd (he.1.below hW) (hp.1.below hW) (hlo.1.below hW) (hhi.1.below hW) (hst.1.below hW) (arrE_ok hae).1 rfl).mono ?_
    rintro e W' ⟨⟨a, b, c', d, f, g, rfl, h1, h2, _⟩, hb⟩
    rw [e0] at h1 h2 ⊢
    exact ⟨⟨a, b, c', d, f, g, 0, rfl, h1, h2⟩, hb⟩
theorem lin_turn (x : Int) (ea : Option Addr) (el ec : Nat) (es : List Int) (pa : Option Addr) (pl pc : Nat) (ps : List Int) (la : Option Addr) (ll lc : Nat) (lo : List Int) (ha : Option Addr) (hl hc : Nat) (hi : List Int) (ta : Option Addr) (tl tc : Nat) (st : List Int) (ds : List Int) (n : Nat) (w : World)
    (he : Lst w ea el ec es) (hp : Lst w pa pl pc ps) (hlo : Lst w la ll lc lo) (hhi : Lst w ha hl hc hi) (hst : Lst w ta tl tc st) (b0 : el ≤ 1048576) (b1 : pl ≤ 1048576) (b2 : ll ≤ 1048576) (b3 : hl ≤ 1048576) (b4 : tl ≤ 1048576) (hE : doE 11 es ps lo hi st 1 (oneV ds n) = 0) : Lin1 w (.agg #[.int .i64 11, .slice ea el ec, .slice pa pl pc, .slice la ll lc, .slice ha hl hc, .slice ta tl tc, .int .i64 x]) ds n := by
  obtain ⟨hae, hs1, hs2, _⟩ := oneV_parts hE
  have e0 : turnE 0 ds (stepsV ds) ps = 0 := hs1
  obtain ⟨_, _, _, t4, t5⟩ := thr_turn e0
  have hL : (shapeP 11 es ps lo hi st [ds]).1 = taken ds ps := by
    show okL (turnE 0 ds (stepsV ds) ps) (taken ds ps) = _
    rw [e0]; rfl
  refine do_look 11 (by omega) x ea el ec es pa pl pc ps la ll lc lo ha hl hc hi ta tl tc st ds n (0) (taken ds ps) (taken (stepsV ds) ps) w he hp hlo hhi hst b0 b1 b2 b3 b4 hE hL t4 (fun i hi' => ?_) (fun W da dl dc hW hd => ?_)
  · obtain ⟨p, h1, h2, _⟩ := t5 i hi'
    exact ⟨p, h1, h2⟩
  · refine (seen_turn 11 x da dl dc ds ea el ec es pa pl pc ps la ll lc lo ha hl hc hi ta tl tc st W hd (he.1.below hW) (hp.1.below hW) (hlo.1.below hW) (hhi.1.below hW) (hst.1.below hW) (arrE_ok hae).1 rfl).mono ?_
    rintro e W' ⟨⟨a, b, c', d, f, g, rfl, h1, h2, _⟩, hb⟩
    rw [e0] at h1 h2 ⊢
    exact ⟨⟨a, b, c', d, f, g, 0, rfl, h1, h2⟩, hb⟩
theorem lin_cut (x : Int) (ea : Option Addr) (el ec : Nat) (es : List Int) (pa : Option Addr) (pl pc : Nat) (ps : List Int) (la : Option Addr) (ll lc : Nat) (lo : List Int) (ha : Option Addr) (hl hc : Nat) (hi : List Int) (ta : Option Addr) (tl tc : Nat) (st : List Int) (ds : List Int) (n : Nat) (w : World)
    (he : Lst w ea el ec es) (hp : Lst w pa pl pc ps) (hlo : Lst w la ll lc lo) (hhi : Lst w ha hl hc hi) (hst : Lst w ta tl tc st) (b0 : el ≤ 1048576) (b1 : pl ≤ 1048576) (b2 : ll ≤ 1048576) (b3 : hl ≤ 1048576) (b4 : tl ≤ 1048576) (hE : doE 13 es ps lo hi st 1 (oneV ds n) = 0) : Lin1 w (.agg #[.int .i64 13, .slice ea el ec, .slice pa pl pc, .slice la ll lc, .slice ha hl hc, .slice ta tl tc, .int .i64 x]) ds n := by
  obtain ⟨hae, hs1, hs2, _⟩ := oneV_parts hE
  have e0 : cutE 0 ds (stepsV ds) lo hi st = 0 := hs1
  obtain ⟨_, _, _, t4, t5⟩ := thr_cut e0
  have hL : (shapeP 13 es ps lo hi st [ds]).1 = cutD ds lo hi st := by
    show okL (cutE 0 ds (stepsV ds) lo hi st) (cutD ds lo hi st) = _
    rw [e0]; rfl
  refine do_look 13 (by omega) x ea el ec es pa pl pc ps la ll lc lo ha hl hc hi ta tl tc st ds n (cutAcc 0 (stepsV ds) lo ds.length) (cutD ds lo hi st) (cutS (stepsV ds) st) w he hp hlo hhi hst b0 b1 b2 b3 b4 hE hL t4 (fun i hi' => ?_) (fun W da dl dc hW hd => ?_)
  · obtain ⟨p, h1, h2, _⟩ := t5 i hi'
    exact ⟨p, h1, h2⟩
  · refine (seen_cut 13 x da dl dc ds ea el ec es pa pl pc ps la ll lc lo ha hl hc hi ta tl tc st W hd (he.1.below hW) (hp.1.below hW) (hlo.1.below hW) (hhi.1.below hW) (hst.1.below hW) (arrE_ok hae).1 rfl).mono ?_
    rintro e W' ⟨⟨a, b, c', d, f, g, rfl, h1, h2, _⟩, hb⟩
    rw [e0] at h1 h2 ⊢
    exact ⟨⟨a, b, c', d, f, g, 0, rfl, h1, h2⟩, hb⟩
theorem lin_flip (x : Int) (ea : Option Addr) (el ec : Nat) (es : List Int) (pa : Option Addr) (pl pc : Nat) (ps : List Int) (la : Option Addr) (ll lc : Nat) (lo : List Int) (ha : Option Addr) (hl hc : Nat) (hi : List Int) (ta : Option Addr) (tl tc : Nat) (st : List Int) (ds : List Int) (n : Nat) (w : World)
    (he : Lst w ea el ec es) (hp : Lst w pa pl pc ps) (hlo : Lst w la ll lc lo) (hhi : Lst w ha hl hc hi) (hst : Lst w ta tl tc st) (b0 : el ≤ 1048576) (b1 : pl ≤ 1048576) (b2 : ll ≤ 1048576) (b3 : hl ≤ 1048576) (b4 : tl ≤ 1048576) (hE : doE 15 es ps lo hi st 1 (oneV ds n) = 0) : Lin1 w (.agg #[.int .i64 15, .slice ea el ec, .slice pa pl pc, .slice la ll lc, .slice ha hl hc, .slice ta tl tc, .int .i64 x]) ds n := by
  obtain ⟨hae, hs1, hs2, _⟩ := oneV_parts hE
  have e0 : flipE 0 ds (stepsV ds) ps = 0 := hs1
  obtain ⟨_, _, _, t4, t5⟩ := thr_flip e0
  have hL : (shapeP 15 es ps lo hi st [ds]).1 = ds := by
    show okL (flipE 0 ds (stepsV ds) ps) (ds) = _
    rw [e0]; rfl
  refine do_look 15 (by omega) x ea el ec es pa pl pc ps la ll lc lo ha hl hc hi ta tl tc st ds n (flipAcc 0 ds (stepsV ds) ps ps.length) (ds) (flipL (stepsV ds) ps) w he hp hlo hhi hst b0 b1 b2 b3 b4 hE hL t4 (fun i hi' => ?_) (fun W da dl dc hW hd => ?_)
  · obtain ⟨p, h1, h2, _⟩ := t5 i hi'
    exact ⟨p, h1, h2⟩
  · refine (seen_flip 15 x da dl dc ds ea el ec es pa pl pc ps la ll lc lo ha hl hc hi ta tl tc st W hd (he.1.below hW) (hp.1.below hW) (hlo.1.below hW) (hhi.1.below hW) (hst.1.below hW) (arrE_ok hae).1 (by decide)).mono ?_
    rintro e W' ⟨⟨a, b, c', d, f, g, rfl, h1, h2, _⟩, hb⟩
    rw [e0] at h1 h2 ⊢
    exact ⟨⟨a, b, c', d, f, g, 0, rfl, h1, h2⟩, hb⟩
theorem lin_reform (x : Int) (ea : Option Addr) (el ec : Nat) (es : List Int) (pa : Option Addr) (pl pc : Nat) (ps : List Int) (la : Option Addr) (ll lc : Nat) (lo : List Int) (ha : Option Addr) (hl hc : Nat) (hi : List Int) (ta : Option Addr) (tl tc : Nat) (st : List Int) (ds : List Int) (n : Nat) (w : World)
    (he : Lst w ea el ec es) (hp : Lst w pa pl pc ps) (hlo : Lst w la ll lc lo) (hhi : Lst w ha hl hc hi) (hst : Lst w ta tl tc st) (b0 : el ≤ 1048576) (b1 : pl ≤ 1048576) (b2 : ll ≤ 1048576) (b3 : hl ≤ 1048576) (b4 : tl ≤ 1048576) (hE : doE 12 es ps lo hi st 1 (oneV ds n) = 0) : Lin1 w (.agg #[.int .i64 12, .slice ea el ec, .slice pa pl pc, .slice la ll lc, .slice ha hl hc, .slice ta tl tc, .int .i64 x]) ds n := by
  obtain ⟨hae, hs1, hs2, hs3⟩ := oneV_parts hE
  have hsh : shapeP 12 es ps lo hi st [ds] = reformP ds es := rfl
  rw [hsh] at hs1 hs2 hs3
  have hz := (arrE_ok hae).1
  have hn := (arrE_ok hae).2.1
  have hn6 := (arrE_ok hae).2.2
  have hp0 : sizeE es = 0 ∧ sizeN es = sizeN ds ∧ (reformP ds es).1 = es := by
    unfold reformP at hs1 ⊢
    by_cases c : sizeE es ≠ 0
    · rw [if_pos c] at hs1; exact absurd hs1 c
    rw [if_neg c] at hs1 ⊢
    by_cases c2 : sizeN es = sizeN ds
    · rw [if_pos c2]; exact ⟨Decidable.not_not.1 c, c2, rfl⟩
    · rw [if_neg c2] at hs1; exact absurd hs1 (by simp)
  obtain ⟨q1, q2, q3⟩ := hp0
  rw [q3] at hs3
  have hpe : (n : Int) = prod es := by rw [hn, ← size_prod hz, ← q2, size_prod q1]
  refine ⟨es, n, fun xs => xs, lin_id n, ?_, ?_⟩
  · unfold arrE
    rw [if_neg (by rw [q1]; simp), if_neg (by rw [size_prod q1, hpe]; simp)]
  intro W b off cap da dl dc xa xc xs hW c0 c1 hd hx hxc
  refine Do_good 12 x ea el ec es pa pl pc ps la ll lc lo ha hl hc hi ta tl tc st (some ⟨b, off, none⟩) 1 cap (fun _ => ⟨da, dl, dc, ds, xa, n, xc⟩) es n xs W (he.below hW) (hp.below hW) (hlo.below hW) (hhi.below hW) (hst.below hW) b0 b1 b2 b3 b4 (.inr ⟨b, off, rfl, fun j hj => by obtain rfl : j = 0 := by { omega }; exact ⟨c0, c1, hd⟩⟩) (by omega) ((doE_congr (fun j _ => ⟨rfl, rfl⟩)).trans hE) hs3.symm hpe hx.1 hx.2.2.1 ?_
  intro hpos W2 Z nz cz g hW2 hg _ _ hrow
  exact work_reform x (.slice ea el ec) (.slice pa pl pc) (.slice la ll lc) (.slice ha hl hc) (.slice ta tl tc) Z nz cz g n b off 1 cap xa xc xs W2 (by omega) ((hW2.cell (p := ⟨b, off + 1, none⟩) (lt_of_cell c1)).trans c1) (hx.below hW2) hrow
theorem lin_sum (x : Int) (ea : Option Addr) (el ec : Nat) (es : List Int) (pa : Option Addr) (pl pc : Nat) (ps : List Int) (la : Option Addr) (ll lc : Nat) (lo : List Int) (ha : Option Addr) (hl hc : Nat) (hi : List Int) (ta : Option Addr) (tl tc : Nat) (st : List Int) (ds : List Int) (n : Nat) (w : World)
    (he : Lst w ea el ec es) (hp : Lst w pa pl pc ps) (hlo : Lst w la ll lc lo) (hhi : Lst w ha hl hc hi) (hst : Lst w ta tl tc st) (b0 : el ≤ 1048576) (b1 : pl ≤ 1048576) (b2 : ll ≤ 1048576) (b3 : hl ≤ 1048576) (b4 : tl ≤ 1048576) (hE : doE 10 es ps lo hi st 1 (oneV ds n) = 0) : Lin1 w (.agg #[.int .i64 10, .slice ea el ec, .slice pa pl pc, .slice la ll lc, .slice ha hl hc, .slice ta tl tc, .int .i64 x]) ds n := by
  obtain ⟨hae, hs1, hs2, hs3⟩ := oneV_parts hE
  have hsh : shapeP 10 es ps lo hi st [ds] = sumP ds ps := rfl
  rw [hsh] at hs1 hs2 hs3
  have hz := (arrE_ok hae).1
  have hn := (arrE_ok hae).2.1
  have hrise : riseB ps ds.length = true ∧ (sumP ds ps).1 = taken ds (freeL ps ds.length) := by
    unfold sumP at hs1 ⊢
    by_cases c : riseB ps ds.length = true
    · rw [if_pos c]; exact ⟨c, rfl⟩
    · rw [if_neg c] at hs1; exact absurd hs1 (by simp)
  obtain ⟨hr, hq1⟩ := hrise
  rw [hq1] at hs2 hs3
  obtain ⟨haL, hN⟩ := arrE_of hs2
  have hsp := sum_spread hz hs2
  obtain ⟨_, _, _, t4, t5⟩ := thr_spread hsp
  have hqq : ∀ j, j < n → 0 ≤ (readsV 0 ds (sprS ds.length (stepsV (taken ds (freeL ps ds.length))) (freeL ps ds.length)))[j]?.getD 0 ∧ (readsV 0 ds (sprS ds.length (stepsV (taken ds (freeL ps ds.length))) (freeL ps ds.length)))[j]?.getD 0 < ((prod (taken ds (freeL ps ds.length))).toNat : Int) := fun j hj => by
    obtain ⟨p, h1, h2, _⟩ := t5 j (by omega)
    rw [h2]; omega
  refine ⟨(taken ds (freeL ps ds.length)), (prod (taken ds (freeL ps ds.length))).toNat, fun xs => addS (List.replicate (prod (taken ds (freeL ps ds.length))).toNat 0) (readsV 0 ds (sprS ds.length (stepsV (taken ds (freeL ps ds.length))) (freeL ps ds.length))) xs n, lin_land _ _ _ hqq, haL, ?_⟩
  intro W b off cap da dl dc xa xc xs hW c0 c1 hd hx hxc
  have hN6 := (arrE_ok haL).2.2
  refine Do_good 10 x ea el ec es pa pl pc ps la ll lc lo ha hl hc hi ta tl tc st (some ⟨b, off, none⟩) 1 cap (fun _ => ⟨da, dl, dc, ds, xa, n, xc⟩) (taken ds (freeL ps ds.length)) (prod (taken ds (freeL ps ds.length))).toNat (addS (List.replicate (prod (taken ds (freeL ps ds.length))).toNat 0) (readsV 0 ds (sprS ds.length (stepsV (taken ds (freeL ps ds.length))) (freeL ps ds.length))) xs n) W (he.below hW) (hp.below hW) (hlo.below hW) (hhi.below hW) (hst.below hW) b0 b1 b2 b3 b4 (.inr ⟨b, off, rfl, fun j hj => by obtain rfl : j = 0 := by { omega }; exact ⟨c0, c1, hd⟩⟩) (by omega) ((doE_congr (fun j _ => ⟨rfl, rfl⟩)).trans hE) hs3.symm hN (by rw [addS_length]; simp) (addS_bd (fun x hx => by simp at hx; rw [hx.2]; omega) _) ?_
  intro hpos W2 Z nz cz g hW2 hg hZ _ hrow
  have hWW := hW.trans (hW2.mono hW.size)
  exact work_land 10 x (by omega) (.slice ea el ec) (.slice pa pl pc) (.slice la ll lc) (.slice ha hl hc) (.slice ta tl tc) Z nz cz g (prod (taken ds (freeL ps ds.length))).toNat b off 1 cap da dl dc xa n xc xs (readsV 0 ds (sprS ds.length (stepsV (taken ds (freeL ps ds.length))) (freeL ps ds.length))) W2 (by omega) ((hW2.cell (p := ⟨b, off, none⟩) (lt_of_cell c0)).trans c0) ((hW2.cell (p := ⟨b, off + 1, none⟩) (lt_of_cell c1)).trans c1) (hx.below hW2) (fun h0 => off_new (W := W) hx h0 hg) hrow (by rw [readsV_length]; omega) hqq (fun W3 hW3 => by {
      have h3 := hWW.trans (hW3.mono hWW.size)
      have hdl := hd.1.1
      subst hdl
      exact landing_sum x (.slice ea el ec) pa pl pc ps la ll lc ha hl hc ta tl tc da ds.length dc ds Z nz cz (taken ds (freeL ps ds.length)) W3 (hp.below h3) (hd.1.below (hW2.trans (hW3.mono hW2.size))) (hZ.below hW3) (sizeE_ok hz).1 (once_of_rise ((riseB_iff _ _).1 hr)) hs2 hsp t4 })
theorem lin_pad (x : Int) (ea : Option Addr) (el ec : Nat) (es : List Int) (pa : Option Addr) (pl pc : Nat) (ps : List Int) (la : Option Addr) (ll lc : Nat) (lo : List Int) (ha : Option Addr) (hl hc : Nat) (hi : List Int) (ta : Option Addr) (tl tc : Nat) (st : List Int) (ds : List Int) (n : Nat) (w : World)
    (he : Lst w ea el ec es) (hp : Lst w pa pl pc ps) (hlo : Lst w la ll lc lo) (hhi : Lst w ha hl hc hi) (hst : Lst w ta tl tc st) (b0 : el ≤ 1048576) (b1 : pl ≤ 1048576) (b2 : ll ≤ 1048576) (b3 : hl ≤ 1048576) (b4 : tl ≤ 1048576) (hE : doE 14 es ps lo hi st 1 (oneV ds n) = 0) : Lin1 w (.agg #[.int .i64 14, .slice ea el ec, .slice pa pl pc, .slice la ll lc, .slice ha hl hc, .slice ta tl tc, .int .i64 x]) ds n := by
  obtain ⟨hae, hs1, hs2, hs3⟩ := oneV_parts hE
  have hsh : shapeP 14 es ps lo hi st [ds] = padP ds lo hi st := rfl
  rw [hsh] at hs1 hs2 hs3
  have hz := (arrE_ok hae).1
  have hn := (arrE_ok hae).2.1
  have hpp : lensB ds.length lo hi st = true ∧ anyPad ds.length lo hi st = false ∧ (padP ds lo hi st).1 = padD ds lo hi st := by
    unfold padP at hs1 ⊢
    by_cases c : lensB ds.length lo hi st = true
    · rw [if_pos c] at hs1 ⊢
      by_cases c2 : anyPad ds.length lo hi st = true
      · rw [if_pos c2] at hs1; exact absurd hs1 (by simp)
      · rw [if_neg c2]; exact ⟨c, by simpa using c2, rfl⟩
    · rw [if_neg c] at hs1; exact absurd hs1 (by simp)
  obtain ⟨hl1, hl2, hq1⟩ := hpp
  rw [hq1] at hs2 hs3
  obtain ⟨haL, hN⟩ := arrE_of hs2
  obtain ⟨k1, k2, k3⟩ := pad_cut hz hl1 hl2
  have hct := cut_whole hs2 k1 k2
  obtain ⟨_, _, _, t4, t5⟩ := thr_cut hct
  have t4' := t4
  have t5' := t5
  rw [k3] at t4' t5'
  have hqq : ∀ j, j < n → 0 ≤ (readsV (cutAcc 0 (stepsV (padD ds lo hi st)) lo (padD ds lo hi st).length) ds (cutS (stepsV (padD ds lo hi st)) st))[j]?.getD 0 ∧ (readsV (cutAcc 0 (stepsV (padD ds lo hi st)) lo (padD ds lo hi st).length) ds (cutS (stepsV (padD ds lo hi st)) st))[j]?.getD 0 < ((prod (padD ds lo hi st)).toNat : Int) := fun j hj => by
    obtain ⟨p, h1, h2, _⟩ := t5' j (by omega)
    rw [h2]; omega
  obtain ⟨m1, m2, m3⟩ := lensB_true.1 hl1
  refine ⟨(padD ds lo hi st), (prod (padD ds lo hi st)).toNat, fun xs => addS (List.replicate (prod (padD ds lo hi st)).toNat 0) (readsV (cutAcc 0 (stepsV (padD ds lo hi st)) lo (padD ds lo hi st).length) ds (cutS (stepsV (padD ds lo hi st)) st)) xs n, lin_land _ _ _ hqq, haL, ?_⟩
  intro W b off cap da dl dc xa xc xs hW c0 c1 hd hx hxc
  have hN6 := (arrE_ok haL).2.2
  refine Do_good 14 x ea el ec es pa pl pc ps la ll lc lo ha hl hc hi ta tl tc st (some ⟨b, off, none⟩) 1 cap (fun _ => ⟨da, dl, dc, ds, xa, n, xc⟩) (padD ds lo hi st) (prod (padD ds lo hi st)).toNat (addS (List.replicate (prod (padD ds lo hi st)).toNat 0) (readsV (cutAcc 0 (stepsV (padD ds lo hi st)) lo (padD ds lo hi st).length) ds (cutS (stepsV (padD ds lo hi st)) st)) xs n) W (he.below hW) (hp.below hW) (hlo.below hW) (hhi.below hW) (hst.below hW) b0 b1 b2 b3 b4 (.inr ⟨b, off, rfl, fun j hj => by obtain rfl : j = 0 := by { omega }; exact ⟨c0, c1, hd⟩⟩) (by omega) ((doE_congr (fun j _ => ⟨rfl, rfl⟩)).trans hE) hs3.symm hN (by rw [addS_length]; simp) (addS_bd (fun x hx => by simp at hx; rw [hx.2]; omega) _) ?_
  intro hpos W2 Z nz cz g hW2 hg hZ _ hrow
  have hWW := hW.trans (hW2.mono hW.size)
  exact work_land 14 x (by omega) (.slice ea el ec) (.slice pa pl pc) (.slice la ll lc) (.slice ha hl hc) (.slice ta tl tc) Z nz cz g (prod (padD ds lo hi st)).toNat b off 1 cap da dl dc xa n xc xs (readsV (cutAcc 0 (stepsV (padD ds lo hi st)) lo (padD ds lo hi st).length) ds (cutS (stepsV (padD ds lo hi st)) st)) W2 (by omega) ((hW2.cell (p := ⟨b, off, none⟩) (lt_of_cell c0)).trans c0) ((hW2.cell (p := ⟨b, off + 1, none⟩) (lt_of_cell c1)).trans c1) (hx.below hW2) (fun h0 => off_new (W := W) hx h0 hg) hrow (by rw [readsV_length]; omega) hqq (fun W3 hW3 => by {
      have h3 := hWW.trans (hW3.mono hWW.size)
      have hpl := padD_length ds lo hi st
      have hnz := hZ.1
      have hhl := hhi.1.1
      have key := landing_pad x (.slice ea el ec) pa pl pc la ll lc lo ha hl hc hi ta tl tc st (.slice da dl dc) Z nz cz (padD ds lo hi st) W3 (hlo.1.below h3) (hhi.1.below h3) (hst.1.below h3) (hZ.below hW3) (by have := (sizeE_ok hs2).1; omega) (by omega) (fun j hj => ⟨(of_anyPad_false hl2 j (by omega)).2.1, (sizeE_ok hs2).2.1 _ (mem_getD _ j (by omega))⟩) hs2 hct t4
      rw [k3] at key
      exact key })
end Go.Proofs.Ytcidhbkdaleomaa.V
namespace Go.Proofs.Ytcidhbkdaleomaa.V
set_option maxRecDepth 20000
open Go.RowKit

/-- One number in a block. -/
theorem ints_one {w : World} {B : Nat} (x : Int) (hx : -9223372036854775808 ≤ x ∧ x ≤ 9223372036854775807) (t : TypeId) (h : w.heap.size = B) : Ints (w.alloc (.cells #[.int .i64 x] t)) (some ⟨B, 0, none⟩) 1 [x] := by
  subst h
  refine ⟨rfl, by omega, by simpa using hx, .inr ⟨_, _, rfl, fun j hj => ?_⟩⟩
  obtain rfl : j = 0 := by omega
  simp

end Go.Proofs.Ytcidhbkdaleomaa.V
namespace Go.Proofs.Ytcidhbkdaleomaa.V
set_option maxRecDepth 20000
open Go.RowKit

set_option maxRecDepth 100000 in
set_option maxHeartbeats 2000000 in
theorem alive2_any (w : World) : Calls Try.prog 22 #[] w fun e w' => e = .returned (.bool true) ∧ Below w.heap.size w w' := by
  have HB1 := (Below.refl w.heap.size w).alloc (Nat.le_refl _) (.cells #[.int .i64 2] 2)
  have HB2 := HB1.alloc HB1.size (.cells #[.int .i64 3] 2)
  have HB3 := HB2.alloc HB2.size (.cells #[.slice none 0 0, .slice (some ⟨w.heap.size, 0, none⟩) 1 1, .slice none 0 0, .slice (some ⟨w.heap.size + 1, 0, none⟩) 1 1] 28)
  have HB := hide HB3
  have i2 := ((ints_one 2 (by omega) 2 (w := w) (B := w.heap.size) rfl).below ((Below.refl _ _).alloc (Nat.le_refl _) (.cells #[.int .i64 3] 2))).below ((Below.refl _ _).alloc (Nat.le_refl _) (.cells #[.slice none 0 0, .slice (some ⟨w.heap.size, 0, none⟩) 1 1, .slice none 0 0, .slice (some ⟨w.heap.size + 1, 0, none⟩) 1 1] 28))
  have i3 := (ints_one 3 (by omega) 2 (w := (w.alloc (.cells #[.int .i64 2] 2))) (B := w.heap.size + 1) (by simp)).below ((Below.refl _ _).alloc (Nat.le_refl _) (.cells #[.slice none 0 0, .slice (some ⟨w.heap.size, 0, none⟩) 1 1, .slice none 0 0, .slice (some ⟨w.heap.size + 1, 0, none⟩) 1 1] 28))
  have f4 := FourAt.new (w := ((w.alloc (.cells #[.int .i64 2] 2)).alloc (.cells #[.int .i64 3] 2))) (B := w.heap.size + 1 + 1) (.slice none 0 0) (.slice (some ⟨w.heap.size, 0, none⟩) 1 1) (.slice none 0 0) (.slice (some ⟨w.heap.size + 1, 0, none⟩) 1 1) (by simp)
  obtain ⟨c0, c1, c2, c3⟩ := f4.cells
  have hS := Do_two 3 (.inl rfl) (w.heap.size + 1 + 1) 0 2 none 0 0 none 0 0 [] 1 (some ⟨w.heap.size, 0, none⟩) 1 [2] (some ⟨w.heap.size + 1, 0, none⟩) 1 [3] _ c0 c1 c2 c3 (ints_nil _) (ints_nil _) i2 i3 (by decide)
  have ht : twoL 3 [2] [3] 1 = [5] := by simp [twoL, twoV, List.range_succ, w64, wrap_in 5 (by omega) (by omega)]
  rw [ht] at hS
  have HS := hide hS
  clear i2 i3 f4 c0 c1 c2 c3 HB1 HB2 HB3 hS ht
  go_enter Try.func22, Try.ntmps22
  go_wp2_with (go_at_call 24; refine HS.out.mono ?_; rintro e w1 ⟨⟨g, G, rfl, hi1, hi2, hg1, hg2⟩, hb⟩; obtain ⟨b5, o5, e5, _, hc5⟩ := hi2.at (by omega); cases e5; have c5 := alloc_cell (o := .cells #[.slice (some ⟨g, 0, none⟩) 0 0, .slice (some ⟨G, 0, none⟩) 1 1] 28) (hc5 0 (by omega)); simp only [Nat.add_zero, List.getElem?_cons_zero, Option.getD_some] at c5; have HB5 := hide (Below.on HB.out hb); obtain ⟨⟨a0, a1⟩, _⟩ := (ArrAt.new w1 (.slice (some ⟨g, 0, none⟩) 0 0) (.slice (some ⟨G, 0, none⟩) 1 1)).cells; clear hi1 hi2 hb hc5 hg1 hg2)
  all_goals go_ret
  all_goals exact ⟨rfl, HB5.out.alloc HB5.out.size _⟩
end Go.Proofs.Ytcidhbkdaleomaa.V
