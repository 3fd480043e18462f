/-
  Contract: adjointref2.Get.
-/
import Derived.Test.YtoagnhppjlcpkaaGreatQGSteps
import Derived.Test.YtoagnhppjlcpkaaGreatQHArrWrong
import Derived.Test.YtoagnhppjlcpkaaGreatQGArrWork
import Derived.Test.YtoagnhppjlcpkaaGreatQGLapse
import Derived.Test.YtoagnhppjlcpkaaGreatQGArrDoBad
import Derived.Test.YtoagnhppjlcpkaaGreatQGRReads
import Derived.Test.YtoagnhppjlcpkaaGreatQGArrEach
import Derived.Test.YtoagnhppjlcpkaaGreatQGArrSubs
import Derived.Test.YtoagnhppjlcpkaaGreatQJLinMath
namespace Go.Proofs.YtoagnhppjlcpkaaGreat.V
set_option maxRecDepth 20000
open Go.RowKit

set_option maxHeartbeats 1000000 in
theorem rget_any (da : Option Addr) (dl dc : Nat) (ds : List Int) (xa : Option Addr) (n xc : Nat) (xs : List Int) (a' : Option Addr) (len' cap' : Nat) (ys : List Int) (w : World) (p : Nat)
    (hd : Ints w da dl ds) (hdc : dl ≤ dc) (hx : Ints w xa n xs) (hy : Ints w a' len' ys) (hp : placeN ds ys = p) (hpn : p < n) :
    Calls Tryz.prog 42 #[.agg #[.slice da dl dc, .slice xa n xc], .slice a' len' cap'] w fun e w' => e = .returned (.int .i64 (xs[p]?.getD 0)) ∧ Below w.heap.size w w' := by
  have HD := hide hd
  have HY := hide hy
  have HX := hide hx
  have HP := hide hp
  have hm := hx.2.1
  obtain ⟨b, off, rfl, hc⟩ := hx.2.2.2.resolve_left (by omega)
  have hcp := hc p hpn
  have hbl : b < w.heap.size := lt_of_cell hcp
  have HC := hide hcp
  have HB1 := hide ((Below.refl w.heap.size w).alloc (Nat.le_refl _) (.cells #[.slice da dl dc, .slice (some ⟨b, off, none⟩) n xc] 28))
  have HAR := hide (ArrAt.new w (.slice da dl dc) (.slice (some ⟨b, off, none⟩) n xc))
  obtain ⟨⟨r0, r1⟩, _⟩ := HAR.out.cells
  clear hd hy hx hp hc hcp
  go_enter Tryz.func42, Tryz.ntmps42
  go_wp2_with (go_at_call 83; refine (rplace_any _ _ _ ds _ _ _ ys _ (HD.out.below HB1.out) (HY.out.below HB1.out) hdc).mono ?_; rintro e w1 ⟨rfl, hb⟩; rw [HP.out]; have HB2 := hide (Below.on HB1.out hb); have HAR2 := hide (HAR.out.below hb); clear r0 r1; obtain ⟨⟨r0, r1⟩, _⟩ := HAR2.out.cells; have g0 := (HB2.out.cell (p := ⟨b, off + p, none⟩) hbl).trans HC.out; clear hb)
  go_ret
  exact ⟨rfl, HB2.out⟩
end Go.Proofs.YtoagnhppjlcpkaaGreat.V

/-
  The law for drawn regions by facts (Facts.lean), where one operation, the s-th, does more than make memory (what R says): for regions in which a row that is owned grows in its place.
-/
namespace Go.Proofs.YtoagnhppjlcpkaaGreat.V
set_option maxRecDepth 20000
open Go Go.RowKit

section
variable {P : Program} {Q : Exit → Act → World → Prop} {ops : List Oper}

/-- What the i-th operation does to the world: the s-th as R says, all others only make memory. -/
def St (R : World → World → Prop) (s i : Nat) (w w' : World) : Prop := if i = s then R w w' else Below w.heap.size w w'
theorem St.to {R : World → World → Prop} {s i : Nat} {w w' : World} (h : St R s i w w') (hRB : ∀ w w', Below w.heap.size w w' → R w w') : R w w' := by
  unfold St at h
  split at h
  · exact h
  · exact hRB _ _ h
theorem St.of {R : World → World → Prop} {s i : Nat} {w w' : World} (h : Below w.heap.size w w') (hne : i ≠ s) : St R s i w w' := by rw [St, if_neg hne]; exact h
theorem St.at {R : World → World → Prop} {s : Nat} {w w' : World} (h : R w w') : St R s s w w' := by rw [St, if_pos rfl]; exact h

/-- What holds while some of the operations have come. -/
structure FInvR (R : World → World → Prop) (s : Nat) (ops : List Oper) (M : Nat) (F : Nat → Value → World → Prop) (mk : Nat → Bool) (a0 : Act) (w0 : World) (listed : Array Bool) (a : Act) (w : World) : Prop where
  defs : a.defers = a0.defers
  size : a.tmps.size = a0.tmps.size
  far : ∀ t, (∀ j, j < M → listed.getD j false = true → dstAt ops j ≠ t) → a.tmps.getD t undef = a0.tmps.getD t undef
  below : R w0 w
  pre : listed.getD s false = false → Below w0.heap.size w0 w
  fact : ∀ j, j < M → listed.getD j false = true → F j (a.tmps.getD (dstAt ops j) undef) w
  pair : ∀ i j, i < M → j < M → i ≠ j → listed.getD i false = true → listed.getD j false = true → mk i = true → mk j = true → ∀ b, blk (a.tmps.getD (dstAt ops i) undef) = some b → blk (a.tmps.getD (dstAt ops j) undef) ≠ some b

theorem any_factsR {R : World → World → Prop} (hRt : ∀ w w' w'', R w w' → R w' w'' → R w w'') (hRB : ∀ u v : World, Below u.heap.size u v → R u v) (s : Nat) {a0 : Act} {w0 : World} (M n : Nat) (F : Nat → Value → World → Prop) (mk : Nat → Bool) (ok : FOk ops M) (hwait : waitsAll ops M n none = true)
    (hts : ∀ j, j < M → dstAt ops j < a0.tmps.size)
    (hQ : ∀ ch (a a' : Act) w', a.defers = a'.defers → Q (.panic ch) a w' → Q (.panic ch) a' w')
    (hF : ∀ i j v w w', j < M → i ≠ j → F j v w → St R s i w w' → F j v w')
    (hlt : ∀ i v w b, i < M → mk i = true → F i v w → blk v = some b → b < w.heap.size)
    (hstep : ∀ i o, i < M → ops[i]? = some o → ∀ (u : Nat → Value) (w : World), R w0 w → (i = s → Below w0.heap.size w0 w) → (∀ j, j < i → hasEdge o j = true → F j (u j) w) →
      o.wp P (putAll ops u i a0) w (fun a' w' => a'.defers = a0.defers ∧ F i (a'.tmps.getD (dstAt ops i) undef) w' ∧ St R s i w w' ∧ (mk i = true → ∀ b, blk (a'.tmps.getD (dstAt ops i) undef) = some b → w.heap.size ≤ b)) Q)
    (hend : ∀ (u : Nat → Value) (w : World), R w0 w → (∀ i, i < M → F i (u i) w) → (∀ i j, i < M → j < M → i ≠ j → mk i = true → mk j = true → ∀ b, blk (u i) = some b → blk (u j) ≠ some b) → UptoW P Q ops M (putAll ops u M a0) w) :
    ∀ (fuel : Nat) (listed : Array Bool) (a : Act) (w : World), listed.size = ops.length → (∀ j, M ≤ j → j < ops.length → listed.getD j false = false) → Shutt .any ops.toArray listed → left listed M + (ops.length - M) ≤ fuel → FInvR R s ops M F mk a0 w0 listed a w → wpAny P .any ops.toArray Q fuel listed a w := by
  have hlen := ok.len
  intro fuel
  induction fuel with
  | zero =>
    intro listed a w hsz hno hsh hle hi
    have hz : left listed M = 0 := by omega
    have hall := left_zero listed M hz
    have hMl : M = ops.length := by omega
    have hae : a = putAll ops (fun j => a.tmps.getD (dstAt ops j) undef) M a0 := fact_end ok hts hi.defs hi.size (fun t ht => hi.far t (fun j hj _ => ht j hj))
    rw [hae]
    exact hend _ w hi.below (fun i hiM => hi.fact i hiM (hall i hiM)) (fun i j h1 h2 h3 h4 h5 => hi.pair i j h1 h2 h3 (hall i h1) (hall j h2) h4 h5) 0 listed hsz (fun j hj => ⟨fun _ => by omega, fun h => hall j h⟩) (by omega)
  | succ fuel ih =>
    intro listed a w hsz hno hsh hle hi
    have hgt : ∀ j, j < ops.length → (listed.getD j true = false ↔ listed.getD j false = false) := fun j hj => by simp [hsz, hj]
    by_cases hz : left listed M = 0
    · have hall := left_zero listed M hz
      have hae : a = putAll ops (fun j => a.tmps.getD (dstAt ops j) undef) M a0 := fact_end ok hts hi.defs hi.size (fun t ht => hi.far t (fun j hj _ => ht j hj))
      rw [hae]
      refine hend _ w hi.below (fun i hiM => hi.fact i hiM (hall i hiM)) (fun i j h1 h2 h3 h4 h5 => hi.pair i j h1 h2 h3 (hall i h1) (hall j h2) h4 h5) (fuel + 1) listed hsz (fun j hj => ⟨fun h => ?_, fun h => hall j h⟩) (by omega)
      by_cases hM : j < M
      · exact hM
      · rw [hno j (by omega) hj] at h; cases h
    · -- the least one that has not come
      have hmin : ∀ k, k ≤ M → (∀ j, j < k → listed.getD j false = true) ∨ ∃ j, j < k ∧ listed.getD j false = false ∧ ∀ i, i < j → listed.getD i false = true := by
        intro k
        induction k with
        | zero => intro _; exact .inl (fun j hj => by omega)
        | succ k ihk =>
          intro hk
          rcases ihk (by omega) with h | ⟨j, hj, h⟩
          · by_cases hb : listed.getD k false = true
            · exact .inl (fun j hj => by by_cases e : j = k; (rw [e]; exact hb); exact h j (by omega))
            · exact .inr ⟨k, by omega, by simpa using hb, h⟩
          · exact .inr ⟨j, by omega, h⟩
      have hex : ∃ j, j < M ∧ listed.getD j false = false ∧ ∀ i, i < j → listed.getD i false = true := by
        rcases hmin M (Nat.le_refl _) with h | h
        · exfalso
          apply hz
          clear hz hmin hle hi
          have : ∀ k, (∀ j, j < k → listed.getD j false = true) → left listed k = 0 := by
            intro k
            induction k with
            | zero => intro _; rfl
            | succ k ihk => intro h; rw [left, ihk (fun j hj => h j (by omega)), h k (by omega)]; simp
          exact this M h
        · exact h
      obtain ⟨j0, hj0, hf0, hb0⟩ := hex
      refine ⟨fun hre => ?_, fun i hir => ?_⟩
      · exfalso
        have : j0 ∈ Region.ready .any ops.toArray listed := by
          rw [mem_ready]
          refine ⟨(hgt j0 (by omega)).2 hf0, ops[j0]'(by omega), by simp, fun e he hbd => hb0 _ (back_of ok.back j0 _ (List.getElem?_eq_getElem (by omega)) e he hbd)⟩
        rw [hre] at this
        cases this
      · obtain ⟨hun, o, ho, hr⟩ := mem_ready.1 hir
        have ho' : ops[i]? = some o := by simpa using ho
        have hil := (List.getElem?_eq_some_iff.1 ho').1
        have hun' := (hgt i hil).1 hun
        have hiM : i < M := by
          by_cases h : i < M
          · exact h
          · exfalso
            have := waits_listed hsh n i o ho hr (waits_all hwait j0 i hj0 (by simp) hil (by omega))
            rw [hf0] at this; cases this
        obtain ⟨hg, hp⟩ := ok.bare i o hiM ho'
        have hns : ∀ cs b, o.op ≠ .select cs b := fun cs b e => by rw [e] at hp; simp [plainOp] at hp
        have hod := ok.dsts i o hiM ho'
        unfold wpOp
        simp only [ho]
        rw [if_pos (by simp [Region.wanted, hg])]
        refine .inl ?_
        have hev : execOp a.eval o = execOp (putAll ops (fun j => a.tmps.getD (dstAt ops j) undef) i a0).eval o := by
          refine execOp_congr o hns fun x hx => ?_
          cases x <;> try rfl
          rename_i t
          show a.tmps.getD t undef = (putAll ops (fun j => a.tmps.getD (dstAt ops j) undef) i a0).tmps.getD t undef
          by_cases hex : ∃ j, j < M ∧ dstAt ops j = t
          · obtain ⟨j, hj, rfl⟩ := hex
            obtain ⟨hji, _⟩ := ok.data j i o hj hiM ho' hx
            rw [putAll_at ok _ a0 hts j i hji (by omega)]
          · rw [putAll_far _ _ _ _ (fun j hj e => hex ⟨j, by omega, e⟩), hi.far t (fun j hj _ e => hex ⟨j, hj, e⟩)]
        have hs := hstep i o hiM ho' (fun j => a.tmps.getD (dstAt ops j) undef) w hi.below (fun e => hi.pre (by rw [← e]; exact hun')) (fun j hji hed => by
          obtain ⟨e, he, hbd, hon⟩ := edge_of hed
          have := hr e he hbd
          rw [hon] at this
          exact hi.fact j (by omega) this)
        refine Oper.wp_mono ?_ (wp_act (K := fun v w' => F i v w' ∧ St R s i w w' ∧ (mk i = true → ∀ b, blk v = some b → w.heap.size ≤ b)) hod (by rw [putAll_size]; exact hts i hiM) (putAll_defs _ _ _) hev (fun ch w' h => hQ ch _ a w' (by rw [putAll_defs]; exact hi.defs.symm) h) hs)
        rintro a' w' ⟨v, rfl, hFi, hbe, hmk⟩
        have hget : (a.put (some (dstAt ops i)) v).tmps.getD (dstAt ops i) undef = v := by
          have := hts i hiM
          simp [Act.put, hi.size, this]
        have hli : ∀ j, i ≠ j → (listed.setIfInBounds i true).getD j false = listed.getD j false := fun j hj => getD_set_ne false hj
        have hii : (listed.setIfInBounds i true).getD i false = true := by simp [hsz, hil]
        have hgj : ∀ j, j < M → i ≠ j → (a.put (some (dstAt ops i)) v).tmps.getD (dstAt ops j) undef = a.tmps.getD (dstAt ops j) undef := fun j hj hne => put_getD_ne _ _ _ _ (ok.apart i j hiM hj hne)
        refine ih _ _ _ (by simp [hsz]) (fun j h1 h2 => ?_) (hsh.more hir) (by have := left_set listed i (by omega) hun' M hiM; omega) ⟨?_, ?_, ?_, ?_, ?_, ?_, ?_⟩
        · rw [hli j (by omega)]; exact hno j h1 h2
        · rw [put_defs]; exact hi.defs
        · rw [put_size]; exact hi.size
        · intro t ht
          rw [put_getD_ne _ _ _ _ (ht i hiM hii)]
          refine hi.far t (fun j hj hl => ht j hj ?_)
          by_cases e : i = j
          · subst e; exact hii
          · rw [hli j e]; exact hl
        · exact hRt _ _ _ hi.below (hbe.to hRB)
        · intro hl
          by_cases e : i = s
          · subst e; rw [hii] at hl; cases hl
          · rw [hli s e] at hl
            have h1 := hbe
            unfold St at h1
            rw [if_neg e] at h1
            exact Below.on (hi.pre hl) h1
        · intro j hj hl
          by_cases e : i = j
          · subst e; rw [hget]; exact hFi
          · rw [hgj j hj e]
            rw [hli j e] at hl
            exact hF i j _ _ _ hj e (hi.fact j hj hl) hbe
        · intro p q hp hq hne hlp hlq hmp hmq b hb
          by_cases e1 : i = p
          · subst e1
            rw [hget] at hb
            rw [hgj q hq hne]
            rw [hli q hne] at hlq
            intro hb2
            have h1 := hmk hmp b hb
            have h2 := hlt q _ _ b hq hmq (hi.fact q hq hlq) hb2
            omega
          · rw [hgj p hp e1] at hb
            rw [hli p e1] at hlp
            by_cases e2 : i = q
            · subst e2
              rw [hget]
              intro hb2
              have h1 := hmk hmq b hb2
              have h2 := hlt p _ _ b hp hmp (hi.fact p hp hlp) hb
              omega
            · rw [hgj q hq e2]
              rw [hli q e2] at hlq
              exact hi.pair p q hp hq hne hlp hlq hmp hmq b hb

/-- **The region's law, over any relation that goes on.** -/
theorem region_factsR {R : World → World → Prop} (hRt : ∀ w w' w'', R w w' → R w' w'' → R w w'') (hRB : ∀ w w', Below w.heap.size w w' → R w w') (s : Nat) {id : Nat} {a0 : Act} {w0 : World} (M n : Nat) (F : Nat → Value → World → Prop) (mk : Nat → Bool) (hm : P.follows .mixedOrders = true) (hok : baseOk ops M = true) (hwait : waitsAll ops M n none = true)
    (hts : ((List.range M).all fun j => decide (dstAt ops j < a0.tmps.size)) = true)
    (hQ : ∀ ch (a a' : Act) w', a.defers = a'.defers → Q (.panic ch) a w' → Q (.panic ch) a' w')
    (hF : ∀ i j v w w', j < M → i ≠ j → F j v w → St R s i w w' → F j v w')
    (hlt : ∀ i v w b, i < M → mk i = true → F i v w → blk v = some b → b < w.heap.size)
    (hstep : ∀ i o, i < M → ops[i]? = some o → ∀ (u : Nat → Value) (w : World), R w0 w → (i = s → Below w0.heap.size w0 w) → (∀ j, j < i → hasEdge o j = true → F j (u j) w) →
      o.wp P (putAll ops u i a0) w (fun a' w' => a'.defers = a0.defers ∧ F i (a'.tmps.getD (dstAt ops i) undef) w' ∧ St R s i w w' ∧ (mk i = true → ∀ b, blk (a'.tmps.getD (dstAt ops i) undef) = some b → w.heap.size ≤ b)) Q)
    (hend : ∀ (u : Nat → Value) (w : World), R w0 w → (∀ i, i < M → F i (u i) w) → (∀ i j, i < M → j < M → i ≠ j → mk i = true → mk j = true → ∀ b, blk (u i) = some b → blk (u j) ≠ some b) → UptoW P Q ops M (putAll ops u M a0) w) :
    (Code.region id ops.toArray true).wp P Q a0 w0 := by
  have ok := fok_of hok
  refine wp_region_any hm ?_
  refine any_factsR hRt hRB s (w0 := w0) M n F mk ok hwait (fun j hj => by rw [List.all_eq_true] at hts; simpa using hts j (by simpa using hj)) hQ hF hlt hstep hend _ _ _ _ (by simp) (fun j _ _ => by rw [rep_getD]) (by simpa using Shutt.none) ?_ ⟨rfl, rfl, fun _ _ => rfl, hRB _ _ (Below.refl _ _).drew, fun _ => (Below.refl _ _).drew, fun j _ h => ?_, fun i j _ _ _ h => ?_⟩
  · have := left_le (Array.replicate ops.toArray.size false) M
    have hl2 := ok.len
    have hl3 : ops.toArray.size = ops.length := by simp
    omega
  · rw [rep_getD] at h; cases h
  · rw [rep_getD] at h; cases h

def Fact.GoodR (R : World → World → Prop) (special : Bool) (f : Fact) : Prop := (∀ v w w', f.p v w → Below w.heap.size w w' → f.p v w') ∧ (special = false → ∀ v w w', f.p v w → R w w' → f.p v w') ∧ (f.new = true → ∀ v w b, f.p v w → blk v = some b → b < w.heap.size)
def GoodsR (R : World → World → Prop) (s : Nat) : Nat → List Fact → Prop
  | _, [] => True
  | i, f :: r => f.GoodR R (i == s) ∧ GoodsR R s (i + 1) r
theorem goods_atR {R : World → World → Prop} {s : Nat} : ∀ (fs : List Fact) (k i : Nat), GoodsR R s k fs → (factAt fs i).GoodR R (k + i == s)
  | [], k, i, _ => by simp [factAt, Fact.GoodR]
  | f :: r, k, 0, h => by simpa [factAt] using h.1
  | f :: r, k, i + 1, h => by
    have := goods_atR r (k + 1) i h.2
    rw [show k + 1 + i = k + (i + 1) by omega] at this
    simpa [factAt] using this
/-- Each operation makes its fact of those that it waits for. -/
def MadeR (R : World → World → Prop) (s : Nat) (P : Program) (Q : Exit → Act → World → Prop) (fs : List Fact) (w0 : World) : Nat → List Oper → ((Nat → Value) → Act) → Prop
  | _, [], _ => True
  | i, o :: r, A => (∀ (u : Nat → Value) (w : World), R w0 w → (i = s → Below w0.heap.size w0 w) → (∀ j, j < i → hasEdge o j = true → (factAt fs j).p (u j) w) →
      o.wp P (A u) w (fun a' w' => ∃ v, a' = (A u).put o.dst v ∧ (factAt fs i).p v w' ∧ St R s i w w' ∧ ((factAt fs i).new = true → ∀ b, blk v = some b → w.heap.size ≤ b)) Q) ∧
    MadeR R s P Q fs w0 (i + 1) r (fun u => (A u).put o.dst (u i))
theorem made_atR {R : World → World → Prop} {s M : Nat} (ok : FOk ops M) {fs : List Fact} {w0 : World} {a0 : Act} (hts : ∀ j, j < M → dstAt ops j < a0.tmps.size) : ∀ (l : List Oper) (i : Nat) (A : (Nat → Value) → Act), i + l.length ≤ M → (∀ j, j < l.length → l[j]? = ops[i + j]?) → (∀ u, A u = putAll ops u i a0) → MadeR R s P Q fs w0 i l A →
    ∀ k o, i ≤ k → k < i + l.length → ops[k]? = some o → ∀ (u : Nat → Value) (w : World), R w0 w → (k = s → Below w0.heap.size w0 w) → (∀ j, j < k → hasEdge o j = true → (factAt fs j).p (u j) w) →
      o.wp P (putAll ops u k a0) w (fun a' w' => a'.defers = a0.defers ∧ (factAt fs k).p (a'.tmps.getD (dstAt ops k) undef) w' ∧ St R s k w w' ∧ ((factAt fs k).new = true → ∀ b, blk (a'.tmps.getD (dstAt ops k) undef) = some b → w.heap.size ≤ b)) Q
  | [], i, A, _, _, _, _, k, o, h1, h2, _ => by simp at h2; omega
  | o' :: r, i, A, hi, hl, hA, hM, k, o, h1, h2, ho => by
    have h0 := hl 0 (by simp)
    simp only [List.getElem?_cons_zero, Nat.add_zero] at h0
    simp only [List.length_cons] at hi h2
    by_cases e : k = i
    · subst e
      rw [ho] at h0
      obtain rfl := Option.some.inj h0
      intro u w hb hs hd
      have := hM.1 u w hb hs hd
      rw [hA u] at this
      refine Oper.wp_mono ?_ this
      rintro a' w' ⟨v, rfl, q1, q2, q3⟩
      have hg : ((putAll ops u k a0).put o'.dst v).tmps.getD (dstAt ops k) undef = v := by
        rw [ok.dsts k o' (by omega) ho]
        have := hts k (by omega)
        simp [Act.put, putAll_size, this]
      rw [hg, put_defs, putAll_defs]
      exact ⟨rfl, q1, q2, q3⟩
    · refine made_atR ok hts r (i + 1) _ (by omega) (fun j hj => ?_) (fun u => ?_) hM.2 k o (by omega) (by omega) ho
      · have := hl (j + 1) (by simp; omega)
        rw [List.getElem?_cons_succ] at this
        rw [this]; congr 1; omega
      · rw [hA u, putAll, ok.dsts i o' (by omega) h0.symm]

/-- **The region's law, by a list of facts, over any relation that goes on.** -/
theorem region_madeR (R : World → World → Prop) (hRt : ∀ w w' w'', R w w' → R w' w'' → R w w'') (hRB : ∀ w w', Below w.heap.size w w' → R w w') (s : Nat) {id : Nat} {a0 : Act} {w0 : World} (M n : Nat) (fs : List Fact) (hm : P.follows .mixedOrders = true) (hok : factsOk ops M n = true) (hts : ((List.range M).all fun j => decide (dstAt ops j < a0.tmps.size)) = true)
    (hQ : ∀ ch (a a' : Act) w', a.defers = a'.defers → Q (.panic ch) a w' → Q (.panic ch) a' w') (hgood : GoodsR R s 0 fs)
    (hstep : MadeR R s P Q fs w0 0 (ops.take M) (fun _ => a0))
    (hend : ∀ (u : Nat → Value) (w : World), R w0 w → (∀ i, i < M → (factAt fs i).p (u i) w) → (∀ i j, i < M → j < M → i ≠ j → (factAt fs i).new = true → (factAt fs j).new = true → ∀ b, blk (u i) = some b → blk (u j) ≠ some b) → UptoW P Q ops M (putOps u 0 (ops.take M) a0) w) :
    (Code.region id ops.toArray true).wp P Q a0 w0 := by
  unfold factsOk at hok
  rw [Bool.and_eq_true] at hok
  have ok := fok_of hok.1
  have hlen := ok.len
  have hts' : ∀ j, j < M → dstAt ops j < a0.tmps.size := fun j hj => by rw [List.all_eq_true] at hts; simpa using hts j (by simpa using hj)
  have hl : (ops.take M).length = M := by simp; omega
  have htk : ∀ j, j < (ops.take M).length → (ops.take M)[j]? = ops[0 + j]? := fun j hj => by rw [hl] at hj; rw [List.getElem?_take_of_lt hj, Nat.zero_add]
  refine region_factsR hRt hRB s M n (fun i => (factAt fs i).p) (fun i => (factAt fs i).new) hm hok.1 hok.2 hts hQ (fun i j v w w' _ hne h hb => ?st) (fun i v w b _ hk h hb => (goods_atR fs 0 i hgood).2.2 hk v w b h hb) (fun i o hi ho u w hb hs hd => ?_) (fun u w hb hf hp => ?_)
  case st =>
    have hg := goods_atR fs 0 j hgood
    unfold St at hb
    by_cases e : i = s
    · rw [if_pos e] at hb
      exact hg.2.1 (by simp; omega) v w w' h hb
    · rw [if_neg e] at hb
      exact hg.1 v w w' h hb
  · exact made_atR ok hts' (ops.take M) 0 (fun _ => a0) (by omega) htk (fun _ => rfl) hstep i o (by omega) (by omega) ho u w hb hs hd
  · have := putAll_ops ok u a0 (ops.take M) 0 (by omega) htk
    rw [hl, Nat.zero_add] at this
    rw [← this]
    exact hend u w hb hf hp
end
end Go.Proofs.YtoagnhppjlcpkaaGreat.V

/-
  Contract: adjointref2.Do, where it tells an error; and where it does not, over what entry tells.
-/
namespace Go.Proofs.YtoagnhppjlcpkaaGreat.V
set_option maxRecDepth 20000
open Go.RowKit

/-- What an own row of lists is. -/
theorem own_row {w : World} {B : Nat} {t : TypeId} {n : Nat} {v : Value} {vs : List Value} (h : w.ownsRow B t 1 v n vs) : ∃ A c, v = .slice A n c ∧ n ≤ c ∧ (n = 0 ∨ ∃ g, A = some ⟨g, 0, none⟩ ∧ B ≤ g ∧ ∀ i, i < n → w.cell? ⟨g, i, none⟩ = vs[i]?) := by
  have h' := h
  rcases h.2 with ⟨rfl, h2⟩ | ⟨g, cap, cur, rfl, h3, h5, h4, h6⟩
  · subst h2
    exact ⟨none, 0, rfl, Nat.le_refl _, .inl rfl⟩
  · exact ⟨_, _, rfl, h4, .inr ⟨g, rfl, h3, fun i hi => h'.cellAt i (by omega)⟩⟩
theorem OpAt.grown {w w' : World} {b : Nat} {k : Int} {vd va vl vh vs : Value} {x : Int} {row : Option Nat} (h : OpAt w b k vd va vl vh vs x) (hg : w.grownBy w' row) (hne : some b ≠ row) : OpAt w' b k vd va vl vh vs x := (hg.block b h.lt hne).trans h
theorem ArrAt.grown {w w' : World} {b : Nat} {c0 c1 : Value} {row : Option Nat} (h : ArrAt w b c0 c1) (hg : w.grownBy w' row) (hne : some b ≠ row) : ArrAt w' b c0 c1 := (hg.block b h.lt hne).trans h
theorem own_ne {w : World} {B b : Nat} {t : TypeId} {n : Nat} {v : Value} {vs : List Value} (h : w.ownsRow B t 1 v n vs) (hb : b < B) : some b ≠ v.ownBlock := fun e => by
  have := (h.lt b e.symm).1
  omega
def dimRow (v : Nat → ArrV) (j : Nat) : List Value := (List.range j).map fun t => (v t).d
theorem dimRow_succ (v : Nat → ArrV) (j : Nat) : dimRow v (j + 1) = dimRow v j ++ [(v j).d] := by simp [dimRow, List.range_succ]

set_option maxRecDepth 100000 in
set_option maxHeartbeats 4000000 in
theorem rDo_bad (k x : Int) (ea : Option Addr) (el ec : Nat) (es : List Int) (pa : Option Addr) (pl pc : Nat) (ps : List Int) (la : Option Addr) (ll lc : Nat) (lo : List Int) (ha : Option Addr) (hl hc : Nat) (hi : List Int) (ta : Option Addr) (tl tc : Nat) (st : List Int) (A : Option Addr) (m cap : Nat) (v : Nat → ArrV) (w : World)
    (he : Lst w ea el ec es) (hp : Lst w pa pl pc ps) (hlo : Lst w la ll lc lo) (hhi : Lst w ha hl hc hi) (hst : Lst w ta tl tc st) (b0 : el ≤ 1048576) (b1 : pl ≤ 1048576) (b2 : ll ≤ 1048576) (b3 : hl ≤ 1048576) (b4 : tl ≤ 1048576) (hA : Arrs w A m v) (hm : m ≤ 1048576) (hE : doE k es ps lo hi st m v ≠ 0) :
    Calls Tryz.prog 8 #[.agg #[.int .i64 k, .slice ea el ec, .slice pa pl pc, .slice la ll lc, .slice ha hl hc, .slice ta tl tc, .int .i64 x], .slice A m cap] w fun e w' => e = .returned (.tuple #[.agg #[.slice none 0 0, .slice none 0 0], .int .i64 (doE k es ps lo hi st m v)]) ∧ Below w.heap.size w w' := by
  have HE := hide he
  have HP := hide hp
  have HLO := hide hlo
  have HHI := hide hhi
  have HST := hide hst
  have HAA := hide hA
  have HB2 := hide (((Below.refl w.heap.size w).alloc (Nat.le_refl _) (.cells #[.int .i64 k, .slice ea el ec, .slice pa pl pc, .slice la ll lc, .slice ha hl hc, .slice ta tl tc, .int .i64 x] 24)).alloc (by simp) (.cells #[.slice none 0 0, .slice none 0 0] 28))
  have HOP := hide ((OpAt.new w k (.slice ea el ec) (.slice pa pl pc) (.slice la ll lc) (.slice ha hl hc) (.slice ta tl tc) x).alloc (.cells #[.slice none 0 0, .slice none 0 0] 28))
  have har := ArrAt.new (w.alloc (.cells #[.int .i64 k, .slice ea el ec, .slice pa pl pc, .slice la ll lc, .slice ha hl hc, .slice ta tl tc, .int .i64 x] 24)) (.slice none 0 0) (.slice none 0 0)
  simp only [World.size_alloc] at har
  have HAR := hide har
  obtain ⟨o0, o1, o2, o3, o4, o5, o6⟩ := HOP.out.cells
  obtain ⟨⟨r0, r1⟩, fr0, fr1⟩ := HAR.out.cells
  have HDE := hide (show doE k es ps lo hi st m v = if takesE k m ≠ 0 then takesE k m else if arrsE v m ≠ 0 then arrsE v m else (dimsP k es ps lo hi st (dimsOf m v)).2 from rfl)
  have HNE := hide hE
  obtain ⟨i0, hi0, hz0, hz1, hz2⟩ := info_parts info_ints
  have HI := hide hi0
  have HZ0 := hide hz0
  have HZ1 := hide hz1
  have HZ2' := hide hz2
  clear he hp hlo hhi hst hA har hE hi0 hz0 hz1 hz2
  by_cases c1 : takesE k m = 0
  case neg =>
    obtain ⟨T, hT⟩ : ∃ T, T = takesE k m := ⟨_, rfl⟩
    have hd : doE k es ps lo hi st m v = T := by rw [HDE.out, if_pos c1, hT]
    rw [hd]
    have HT := hide hT
    have q : (T != 0) = true := by rw [hT]; simp [c1]
    clear hd c1 hT
    go_enter Tryz.func8, Tryz.ntmps8
    go_wp2_with (go_at_call 20; refine (right_any _ _ _ _ _ _ _ _ _).mono ?_; rintro e w1 ⟨rfl, hb1⟩; rw [← HT.out]; have HB3 := hide (Below.on HB2.out hb1); have HO3 := hide (HOP.out.below hb1); have HA3 := hide (HAR.out.below hb1); have HSZ := hide (show w.heap.size + 2 ≤ w1.heap.size by have := hb1.size; simp at this; omega); clear hb1 o0 o1 o2 o3 o4 o5 o6 r0 r1 fr0 fr1; obtain ⟨⟨r0, r1⟩, fr0, fr1⟩ := HA3.out.cells)
    obtain ⟨⟨u0, u1⟩, _⟩ := (HA3.out.put (.slice none 0 0) (.slice none 0 0)).cells
    exact bodyPost_ret (v := .tuple #[.agg #[.slice none 0 0, .slice none 0 0], .int .i64 T]) (by simp [results, Tryz.results8, go_sem, u0, u1]) rfl ⟨rfl, (HB3.out.setCell (p := ⟨w.heap.size + 1, 0, none⟩) (by simp) _).setCell (p := ⟨w.heap.size + 1, 1, none⟩) (by simp) _⟩
  have HC1 := hide c1
  clear c1
  go_enter Tryz.func8, Tryz.ntmps8
  go_wp2_with (go_at_call 20; refine (right_any _ _ _ _ _ _ _ _ _).mono ?_; rintro e w1 ⟨rfl, hb1⟩; rw [HC1.out]; have HB3 := hide (Below.on HB2.out hb1); have HO3 := hide (HOP.out.below hb1); have HA3 := hide (HAR.out.below hb1); have HSZ := hide (show w.heap.size + 2 ≤ w1.heap.size by have := hb1.size; simp at this; omega); clear hb1 o0 o1 o2 o3 o4 o5 o6 r0 r1 fr0 fr1)
  go_loopw [7, 26] (fun ds i wr => ∃ j : Nat, j ≤ m ∧ i = .int .i64 j ∧ (∀ t, t < j → arrE (v t).ds (v t).xl = 0) ∧ wr.ownsRow (w.heap.size + 2) 22 1 ds j (dimRow v j) ∧ OpAt wr w.heap.size k (.slice ea el ec) (.slice pa pl pc) (.slice la ll lc) (.slice ha hl hc) (.slice ta tl tc) x ∧ ArrAt wr (w.heap.size + 1) (.slice none 0 0) (.slice none 0 0) ∧ Below w.heap.size w wr ∧ w.heap.size + 2 ≤ wr.heap.size) (fun _ i _ => m - (intOf i).toNat)
  case atStart => exact ⟨0, by omega, rfl, fun t ht => by omega, World.ownsRow_nil _ _ _ _, HO3.out, HA3.out, HB3.out, HSZ.out⟩
  case round =>
    clear HB3 HO3 HA3 HSZ
    obtain ⟨j, hj, rfl, hgood, hrow, hop, har, hB, hsz⟩ := hrel
    have HG := hide hgood
    have HR := hide hrow
    have HO := hide hop
    have HA := hide har
    have HB := hide hB
    have HSZ := hide hsz
    clear hgood hrow hop har hB hsz
    by_cases hlt : j < m
    · obtain ⟨b, off, rfl, hcs⟩ := HAA.out.resolve_left (by omega)
      obtain ⟨d0, d1, hl⟩ := hcs j hlt
      have hbl : b < w.heap.size := lt_of_cell d0
      obtain ⟨⟨da, dl, dc, ds, xa, xl, xc⟩, hv⟩ : ∃ u, u = v j := ⟨_, rfl⟩
      rw [← hv] at d0 d1 hl
      simp only [ArrV.d, ArrV.x] at d0 d1 hl
      have s0 := (HB.out.cell (p := ⟨b, off + j * 2, none⟩) hbl).trans d0
      have s1 := (HB.out.cell (p := ⟨b, off + j * 2 + 1, none⟩) hbl).trans d1
      have HL := hide hl
      have HV := hide hv
      have HAN := hide (ArrAt.new wr (.slice da dl dc) (.slice xa xl xc))
      have HBN := hide (HB.out.alloc HB.out.size (.cells #[.slice da dl dc, .slice xa xl xc] 28))
      have HAB := hide (HA.out.alloc (.cells #[.slice da dl dc, .slice xa xl xc] 28))
      obtain ⟨⟨a0, a1⟩, _⟩ := HAN.out.cells
      clear hcs d0 d1 hl hv
      by_cases e1 : arrE ds xl = 0
      · have HE1 := hide e1
        clear e1
        go_wp2_with (first
          | (go_at_call 21; refine (rawrong_any da dl dc ds xa xl xc _ (HL.out.1.below HBN.out)).mono ?_; rintro e w1 ⟨rfl, hb⟩; rw [HE1.out]; have HB3 := hide (Below.on HBN.out hb); have HA3 := hide (HAB.out.below hb); have HO3 := hide ((HO.out.alloc _).below hb); have HR3 := hide (own_below (HR.out.alloc _) hb); have HAN3 := hide (HAN.out.below hb); have HSZ3 := hide (show w.heap.size + 2 ≤ w1.heap.size by have := hb.size; have := HSZ.out; simp at *; omega); clear a0 a1 hb; obtain ⟨⟨a0, a1⟩, _⟩ := HAN3.out.cells)
          | (at_builtin; refine wpList_append_own _ rfl _ _ 45 rfl (w.heap.size + 2) 22 i0 (.slice none 0 0) 1 24 Tryz.underlying45 HI.out HZ0.out HZ1.out HZ2'.out rfl (by decide) _ _ _ rfl (HR3.out.alloc _) ⟨w1.heap.size, 0, none⟩ 1 1 [.slice da dl dc] rfl rfl (cell_one_new _ _ _) (by simp [Value.oneCell']) (by unfold maxLen; omega) (by omega) (by have := HSZ3.out; simp; omega) ?_; intro v' w3 hown' hgrow hnn; have HO' := hide hown'; have HG' := hide hgrow; clear hown' hgrow hnn))
        go_roundw
        case rel =>
          refine ⟨j + 1, by omega, by go_num, fun t ht => ?_, by rw [dimRow_succ, ← HV.out]; exact HO'.out, (HO3.out.alloc _).grown HG'.out (own_ne HR3.out (by omega)), (HA3.out.alloc _).grown HG'.out (own_ne HR3.out (by omega)), ?_, ?_⟩
          · by_cases e : t = j
            · rw [e, ← HV.out]; exact HE1.out
            · exact HG.out t (by omega)
          · exact (HB3.out.alloc HB3.out.size _).grown HG'.out (by have := HB3.out.size; simp; omega) (fun i e => by have := (HR3.out.lt i e).1; omega)
          · have := HG'.out.size
            have := HSZ3.out
            simp at *
            omega
        case measure => simp [intOf]; omega
      · obtain ⟨T, hT⟩ : ∃ T, T = arrE ds xl := ⟨_, rfl⟩
        have hd : doE k es ps lo hi st m v = T := by
          have e0 : arrE (v j).ds (v j).xl ≠ 0 := by rw [← HV.out]; exact e1
          have e2 := arrsE_at HG.out e0 m hlt
          rw [HDE.out, if_neg (by rw [HC1.out]; simp), e2, if_pos e0, ← HV.out, hT]
        have HD := hide hd
        have HT := hide hT
        have q : (T != 0) = true := by rw [hT]; simp [e1]
        clear hd hT e1
        go_wp2_with (go_at_call 21; refine (rawrong_any da dl dc ds xa xl xc _ (HL.out.1.below HBN.out)).mono ?_; rintro e w1 ⟨rfl, hb⟩; rw [← HT.out]; have HB3 := hide (Below.on HBN.out hb); have HA3 := hide (HAB.out.below hb); clear hb; obtain ⟨⟨r0, r1⟩, fr0, fr1⟩ := HA3.out.cells)
        obtain ⟨⟨u0, u1⟩, _⟩ := (HA3.out.put (.slice none 0 0) (.slice none 0 0)).cells
        rw [HD.out]
        exact bodyPost_ret (v := .tuple #[.agg #[.slice none 0 0, .slice none 0 0], .int .i64 T]) (by simp [results, Tryz.results8, go_sem, u0, u1]) rfl ⟨rfl, (HB3.out.setCell (p := ⟨w.heap.size + 1, 0, none⟩) (by simp) _).setCell (p := ⟨w.heap.size + 1, 1, none⟩) (by simp) _⟩
    · obtain rfl : j = m := by omega
      have hall := arrsE_all j HG.out
      obtain ⟨R, rc, rfl, hrc, hrow⟩ := own_row HR.out
      have HLS : Hid (Lsts wr R j (dimsOf j v)) := by
        refine ⟨dimsOf_len _ _, by omega, ?_⟩
        rcases hrow with h0 | ⟨g, rfl, _, hcell⟩
        · exact .inl h0
        · by_cases h0 : j = 0
          · exact .inl h0
          refine .inr ⟨_, _, rfl, fun t ht => ?_⟩
          obtain ⟨b, off, rfl, hcs⟩ := HAA.out.resolve_left h0
          have := hcell t ht
          refine ⟨(v t).da, (v t).dl, (v t).dc, ?_, by rw [dimsOf_at _ _ _ ht]; exact (hcs t ht).2.2.below HB.out⟩
          rw [Nat.zero_add, this]
          simp [dimRow, ht, ArrV.d]
      have HCD := hide (rDims_any k x _ _ ec es _ _ pc ps _ _ lc lo _ _ hc hi _ _ tc st _ _ rc (dimsOf j v) wr (HE.out.below HB.out) (HP.out.below HB.out) (HLO.out.below HB.out) (HHI.out.below HB.out) (HST.out.below HB.out) HLS.out hrc hm b0 b1 b2 b3 b4)
      have hd : doE k es ps lo hi st j v = (dimsP k es ps lo hi st (dimsOf j v)).2 := by rw [HDE.out, if_neg (by rw [HC1.out]; simp), if_neg (by rw [hall]; simp)]
      obtain ⟨T, hT⟩ : ∃ T, T = (dimsP k es ps lo hi st (dimsOf j v)).2 := ⟨_, rfl⟩
      rw [← hT] at hd
      have hne := HNE.out
      rw [hd] at hne
      have q : (T != 0) = true := by simp [hne]
      have HD := hide hd
      have HT := hide hT
      obtain ⟨o0, o1, o2, o3, o4, o5, o6⟩ := HO.out.cells
      clear hall hd hT hne hrow hrc HR
      go_wp2_with (go_at_call 22; refine HCD.out.mono ?_; rintro e w1 ⟨⟨Z, nz, cz, rfl, hi1, hnc⟩, hb⟩; rw [← HT.out]; have HB3 := hide (Below.on HB.out hb); have HA3 := hide (HA.out.below hb); clear hi1 hb o0 o1 o2 o3 o4 o5 o6; obtain ⟨⟨r0, r1⟩, fr0, fr1⟩ := HA3.out.cells)
      obtain ⟨⟨u0, u1⟩, _⟩ := (HA3.out.put (.slice none 0 0) (.slice none 0 0)).cells
      rw [HD.out]
      exact bodyPost_ret (v := .tuple #[.agg #[.slice none 0 0, .slice none 0 0], .int .i64 T]) (by simp [results, Tryz.results8, go_sem, u0, u1]) rfl ⟨rfl, (HB3.out.setCell (p := ⟨w.heap.size + 1, 0, none⟩) (by simp) _).setCell (p := ⟨w.heap.size + 1, 1, none⟩) (by simp) _⟩
end Go.Proofs.YtoagnhppjlcpkaaGreat.V

/-
  Contracts: adjointref1.Next and All, with what their lists' capacities are (RNext, RAll, RReads say nothing of them).
-/
namespace Go.Proofs.YtoagnhppjlcpkaaGreat.V
set_option maxRecDepth 20000
open Go.RowKit

/-- A slice value's begin, and n: a list of n lists of len numbers each. -/
def ListsC (w : World) (B : Nat) (A : Option Addr) (n len : Nat) (f : Nat → List Int) : Prop :=
  n = 0 ∨ ∃ b, A = some ⟨b, 0, none⟩ ∧ B ≤ b ∧ ∀ i, i < n → ∃ g c, B ≤ g ∧ w.cell? ⟨b, i, none⟩ = some (.slice (some ⟨g, 0, none⟩) len c) ∧ Ints w (some ⟨g, 0, none⟩) len (f i) ∧ len ≤ c
theorem ListsC.below {w w' : World} {B : Nat} {A : Option Addr} {n len : Nat} {f : Nat → List Int} (h : ListsC w B A n len f) (hb : Below w.heap.size w w') : ListsC w' B A n len f := by
  rcases h with h | ⟨b, ha, hB, hc⟩
  · exact .inl h
  · refine .inr ⟨b, ha, hB, fun i hi => ?_⟩
    obtain ⟨g, c, h0, h1, h2, h3⟩ := hc i hi
    exact ⟨g, c, h0, (hb.cell (p := ⟨b, i, none⟩) (lt_of_cell h1)).trans h1, h2.below hb, h3⟩

/-- The values of a row of lists. -/
def ValsC (w : World) (B n len : Nat) (f : Nat → List Int) (vs : List Value) : Prop :=
  vs.length = n ∧ ∀ i, i < n → ∃ g c, B ≤ g ∧ vs[i]? = some (.slice (some ⟨g, 0, none⟩) len c) ∧ Ints w (some ⟨g, 0, none⟩) len (f i) ∧ len ≤ c


set_option maxRecDepth 100000 in
set_option maxHeartbeats 4000000 in
theorem rnext_cap (a : Option Addr) (len cap : Nat) (xs : List Int) (gb cap' : Nat) (ys : List Int) (w : World) (h : Ints w a len xs) (h' : Ints w (some ⟨gb, 0, none⟩) len ys) (h6 : len ≤ 6) (hy : ∀ j, j < len → 0 ≤ ys[j]?.getD 0 ∧ ys[j]?.getD 0 ≤ 4096) :
    Calls Tryz.prog 39 #[.slice a len cap, .slice (some ⟨gb, 0, none⟩) len cap'] w fun e w' => (∃ g c : Nat, e = .returned (.tuple #[.slice (some ⟨g, 0, none⟩) len c, .bool (nextL xs ys).2]) ∧ Ints w' (some ⟨g, 0, none⟩) len (nextL xs ys).1 ∧ w.heap.size ≤ g ∧ g < w'.heap.size ∧ len ≤ c) ∧ Below w.heap.size w w' := by
  have H := hide h
  have H' := hide h'
  have HL := hide h.1
  have HL' := hide h'.1
  have HY := hide hy
  clear h h' hy
  obtain ⟨i0, hi, hz0, hz1, hz2⟩ := info_parts info_int
  have HI := hide hi
  have HZ0 := hide hz0
  have HZ1 := hide hz1
  have HZ2 := hide hz2
  clear hi hz0 hz1 hz2
  have hb1 : Below w.heap.size w (w.alloc (.cells #[] 3)) := (Below.refl _ _).alloc (Nat.le_refl _) _
  have HB1 := hide hb1
  clear hb1
  go_enter Tryz.func39, Tryz.ntmps39
  go_wp2_with (at_builtin; refine wpList_append_own _ rfl _ _ 22 rfl w.heap.size 3 i0 (.int .i64 0) 1 8 Tryz.underlying22 HI.out HZ0.out HZ1.out HZ2.out rfl (by decide) _ _ _ rfl (World.ownsRow_made w #[] 0 (Nat.le_refl _) (Nat.zero_le _) rfl) ⟨gb, 0, none⟩ len cap' (ys.map (Value.int .i64)) rfl ?l1 ?l2 ?l3 ?l4 ?l5 ?l6 ?_)
  case l1 => simp [HL'.out]
  case l2 =>
    intro j u hj
    have hjl : j < len := by have := (List.getElem?_eq_some_iff.1 hj).1; simpa [HL'.out] using this
    obtain ⟨b, off, e, hb, hc⟩ := H'.out.at (by omega)
    cases e
    have h3 : u = .int .i64 (ys[j]?.getD 0) := by
      have : j < ys.length := by rw [HL'.out]; exact hjl
      simp [this] at hj ⊢
      exact hj.symm
    rw [h3, Go.WideShapes.add_plain]
    exact (HB1.out.cell (p := ⟨gb, 0 + j, none⟩) hb).trans (hc j hjl)
  case l3 => intro u hu; simp at hu; obtain ⟨x, _, rfl⟩ := hu; rfl
  case l4 => unfold maxLen; omega
  case l5 => omega
  case l6 => simp
  intro v' w1 hown hgrow hnn
  obtain ⟨g, c, rfl⟩ : ∃ g c, v' = .slice (some ⟨g, 0, none⟩) len c := by
    rcases hown.2 with ⟨e1, e2⟩ | ⟨g, cc, cur, e, _⟩
    · exact (hnn e1).elim
    · exact ⟨g, cc, e⟩
  obtain ⟨f, hrow, hf, hnc, hBg⟩ := row_of_own hown HL'.out
  have hB1 : Below w.heap.size w w1 := by
    refine HB1.out.grown hgrow (by simp) (fun j e => ?_)
    simp [Value.ownBlock] at e
    omega
  have HB := hide hB1
  have HR := hide hrow
  have HF := hide hf
  clear hown hgrow hnn hB1 hrow hf
  go_wp2_with fail
  go_loopw [7] (fun i wr => ∃ (k : Nat) (m : Int) (f : Nat → Value), k ≤ len ∧ m + 1 = k ∧ i = .int .i64 m ∧ wr.rowIs g 3 c f ∧ (∀ j, j < len → f j = .int .i64 (nextAt ys k j)) ∧ (nextL (xs.drop k) (ys.drop k)).2 = false ∧ Below w.heap.size w wr) (fun i _ => (intOf i + 1).toNat)
  case atStart =>
    refine ⟨len, len - 1, f, Nat.le_refl _, by omega, rfl, HR.out, fun j hj => by rw [HF.out j hj, nextAt, if_pos hj], ?_, HB.out⟩
    rw [List.drop_eq_nil_of_le (by rw [HL.out]; omega), List.drop_eq_nil_of_le (by rw [HL'.out]; omega)]; rfl
  case round =>
    clear HR HF HB
    obtain ⟨k, m, f, hk, hm, rfl, hrow, hf, hst, hB⟩ := hrel
    have HB := hide hB
    have HR := hide hrow
    have HF := hide hf
    have HST := hide hst
    clear hB hrow hf hst
    by_cases hlt : 0 < k
    · obtain ⟨k', rfl⟩ : ∃ k', k = k' + 1 := ⟨k - 1, by omega⟩
      obtain rfl : m = (k' : Int) := by omega
      have hk' : k' < len := by omega
      obtain ⟨b, off, rfl, hb, hcc⟩ := H.out.at (by omega)
      obtain ⟨Y, hY⟩ : ∃ Y, Y = ys[k']?.getD 0 := ⟨_, rfl⟩
      obtain ⟨X, hX⟩ : ∃ X, X = xs[k']?.getD 0 := ⟨_, rfl⟩
      have hyb := HY.out k' hk'
      rw [← hY] at hyb
      have cr : wr.cell? ⟨g, k', none⟩ = some (.int .i64 Y) := by
        have := HR.out.cell (i := k') (by omega)
        rw [HF.out k' hk', nextAt, if_pos (by omega), ← hY] at this
        exact this
      have fr := HR.out.frozen k'
      have cx : wr.cell? ⟨b, off + k', none⟩ = some (.int .i64 X) := by rw [hX]; exact (HB.out.cell (p := ⟨b, off + k', none⟩) hb).trans (hcc k' hk')
      have hlg := HR.out.lt
      have hbg : b ≠ g := by omega
      have cr2 : (wr.setCell ⟨g, k', none⟩ (.int .i64 (Y + 1))).cell? ⟨g, k', none⟩ = some (.int .i64 (Y + 1)) := by
        have := (HR.out.set k' (.int .i64 (Y + 1))).cell (i := k') (by omega)
        simpa using this
      have cx2 : (wr.setCell ⟨g, k', none⟩ (.int .i64 (Y + 1))).cell? ⟨b, off + k', none⟩ = some (.int .i64 X) :=
        (World.cell?_of_block (w := wr) (Below.heap_setCell _ ⟨g, k', none⟩ _ b hbg)).trans cx
      have HX := hide hX
      have HY' := hide hY
      have HK : Hid (k' < xs.length) := by rw [Hid, HL.out]; exact hk'
      have i1 : (0 : Int) ≤ (k' : Int) := Int.natCast_nonneg _
      have i2 : (k' : Int) < (len : Int) := by omega
      have w1' : IntKind.i64.wrap (Y + 1) = Y + 1 := wrap_in _ (by omega) (by omega)
      clear hcc hX hY hm
      by_cases hc : Y + 1 < X
      · go_wp2_with fail
        go_region
        go_wp2
        go_ret2
        have hend := nextL_end xs ys (by rw [HL.out, HL'.out]) k' HK.out HST.out (by rw [← HX.out, ← HY'.out]; exact hc)
        rw [hend.1]
        refine ⟨⟨g, c, rfl, ⟨by rw [hend.2.1, HL.out], by omega, fun z hz => ?_, .inr ⟨g, 0, rfl, fun j hj => ?_⟩⟩, hBg, by simpa using hlg, hnc⟩, (HB.out.setCell (p := ⟨g, k', none⟩) hBg _).drew⟩
        · obtain ⟨i, hi, rfl⟩ := List.getElem_of_mem hz
          have hil : i < xs.length := by rw [← hend.2.1]; exact hi
          have := hend.2.2 i hil
          rw [List.getElem?_eq_getElem hi, Option.getD_some] at this
          rw [this]
          split
          · rw [← HY'.out]; omega
          · unfold nextAt
            split
            · have := HY.out i (by rw [← HL.out]; exact hil); omega
            · omega
        · have := (HR.out.set k' (.int .i64 (Y + 1))).cell (i := j) (by omega)
          rw [Nat.zero_add]
          show (wr.setCell ⟨g, k', none⟩ (.int .i64 (Y + 1))).cell? ⟨g, j, none⟩ = _
          rw [this, hend.2.2 j (by rw [HL.out]; exact hj), HF.out j hj, HY'.out]
          split <;> rfl
      · go_wp2_with fail
        go_region
        go_wp2
        go_roundw
        case rel =>
          refine ⟨k', (k' : Int) - 1, fun j => if j = k' then .int .i64 0 else if j = k' then .int .i64 (Y + 1) else f j, by omega, by omega, by go_num, ?_, fun j hj => ?_, nextL_stage xs ys (by rw [HL.out, HL'.out]) k' HK.out HST.out (by rw [← HX.out, ← HY'.out]; omega), ?_⟩
          · exact ((HR.out.set k' (.int .i64 (Y + 1))).drew.set k' (.int .i64 0))
          · show (if j = k' then Value.int .i64 0 else if j = k' then .int .i64 (Y + 1) else f j) = _
            by_cases e : j = k'
            · rw [if_pos e, nextAt, if_neg (by omega)]
            · rw [if_neg e, if_neg e, HF.out j hj, nextAt, nextAt]
              by_cases c2 : j < k'
              · rw [if_pos c2, if_pos (by omega)]
              · rw [if_neg c2, if_neg (by omega)]
          · exact ((HB.out.setCell (p := ⟨g, k', none⟩) hBg _).drew).setCell (p := ⟨g, k', none⟩) hBg _
        case measure => simp [intOf]
    · obtain rfl : k = 0 := by omega
      obtain rfl : m = -1 := by omega
      go_wp2
      go_ret2
      have hst := HST.out
      simp only [List.drop_zero] at hst
      have hnf := nextL_false xs ys (by rw [HL.out, HL'.out]) hst
      rw [hst, hnf]
      refine ⟨⟨g, c, rfl, ⟨by simp [HL.out], by omega, fun z hz => ?_, .inr ⟨g, 0, rfl, fun j hj => ?_⟩⟩, hBg, HR.out.lt, hnc⟩, HB.out⟩
      · have := List.eq_of_mem_replicate hz; omega
      · have := HR.out.cell (i := j) (by omega)
        rw [Nat.zero_add, this, HF.out j hj, nextAt, if_neg (by omega)]
        have hj' : j < xs.length := by rw [HL.out]; exact hj
        simp [hj']

set_option maxRecDepth 100000 in
set_option maxHeartbeats 4000000 in
theorem rall_okC (a : Option Addr) (len cap : Nat) (xs : List Int) (w : World) (h : Ints w a len xs) (hE : sizeE xs = 0) (hpos : ∀ x ∈ xs, 1 ≤ x) :
    Calls Tryz.prog 23 #[.slice a len cap] w fun e w' => (∃ (A : Option Addr) (c : Nat), e = .returned (.slice A (prod xs).toNat c) ∧ ListsC w' w.heap.size A (prod xs).toNat len (fun i => dig xs i)) ∧ Below w.heap.size w w' := by
  obtain ⟨z1, z2, z3, z4⟩ := sizeE_ok hE
  obtain ⟨hp, hn⟩ := z3 hpos
  have hp1 := prod_pos xs hpos
  have hl := h.1
  have hlen : len ≤ 6 := by omega
  obtain ⟨N, hN⟩ : ∃ N : Nat, prod xs = (N : Int) := ⟨(prod xs).toNat, by omega⟩
  have hN1 : 1 ≤ N := by omega
  have hN2 : N ≤ 65536 := by omega
  have eN : (prod xs).toNat = N := by omega
  rw [eN]
  have H := hide h
  have HE := hide hE
  have HL := hide hl
  have HNP := hide hN
  have HPOS := hide hpos
  have HZ2 := hide z2
  have hne : ((N : Int) == 0) = false := by simp; omega
  have HSN : Hid (sizeN xs = (N : Int)) := by rw [Hid, hn, hN]
  clear h hE hl hp hpos z1 z2 z3 z4 hn hN hp1 eN
  obtain ⟨i0, hi, hz0, hz1, hz2⟩ := info_parts info_ints
  have HI := hide hi
  have HZ0 := hide hz0
  have HZ1 := hide hz1
  have HZ2' := hide hz2
  clear hi hz0 hz1 hz2
  have hmk := run_make_row' (P := Tryz.prog) 22 3 (.int .i64 0) 8 Tryz.underlying22 info_int rfl .i64 .i64 len (by omega) (by omega)
  go_enter Tryz.func23, Tryz.ntmps23
  go_wp2_with (go_at_call 37; refine (rsize_any _ _ _ xs _ H.out).mono ?_; rintro e w' ⟨rfl, hw'⟩; obtain rfl := hw'.symm; rw [HE.out, HSN.out])
  have hrow := World.rowIs_made w (.int .i64 0) len 3
  have hint : Ints (w.alloc (.cells (madeCells #[.int .i64 0] len) 3)) (some ⟨w.heap.size, 0, none⟩) len (dig xs 0) := by
    refine ⟨by rw [dig_length]; exact HL.out, by omega, fun x hx => ?_, .inr ⟨_, _, rfl, fun j hj => ?_⟩⟩
    · rw [dig_zero] at hx
      have := List.eq_of_mem_replicate hx; omega
    · rw [Nat.zero_add, hrow.cell hj, dig_zero]
      have : j < xs.length := by rw [HL.out]; exact hj
      simp [this]
  clear hmk
  go_loopw [5, 6, 7] (fun at' out more wr => ∃ (i : Nat) (vs : List Value) (b : Bool), i < N ∧ more = .bool b ∧ wr.ownsRow w.heap.size 22 1 out (i + 1) vs ∧ ValsC wr w.heap.size (i + 1) len (fun i => dig xs i) vs ∧ (∃ g c, out = .slice (some ⟨g, 0, none⟩) (i + 1) c) ∧ (b = true → ∃ g c, at' = .slice (some ⟨g, 0, none⟩) len c ∧ Ints wr (some ⟨g, 0, none⟩) len (dig xs i)) ∧ (b = false → i + 1 = N) ∧ Below w.heap.size w wr)
    (fun _ out more _ => if boolOf more = true then N + 1 - sliceLen out else 0)
  case atStart =>
    refine ⟨0, [.slice (some ⟨w.heap.size, 0, none⟩) len len], true, by omega, rfl, ?_, ⟨rfl, fun i hi => ?_⟩, ⟨_, _, rfl⟩, fun _ => ⟨_, _, rfl, hint.below ((Below.refl _ _).alloc (Nat.le_refl _) _)⟩, (fun h => by cases h), ((Below.refl _ _).alloc (Nat.le_refl _) _).alloc (by simp) _⟩
    · refine ⟨rfl, .inr ⟨_, 1, #[.slice (some ⟨w.heap.size, 0, none⟩) len len], rfl, ?_, ?_, Nat.le_refl _, by decide, rfl, rfl⟩⟩
      · simp
      · have := World.alloc_heap_new (w.alloc (.cells (madeCells #[.int .i64 0] len) 3)) (.cells #[.slice (some ⟨w.heap.size, 0, none⟩) len len] 22)
        rwa [World.size_alloc] at this
    · obtain rfl : i = 0 := by omega
      exact ⟨_, _, Nat.le_refl _, rfl, hint.below ((Below.refl _ _).alloc (Nat.le_refl _) _), Nat.le_refl _⟩
  case round =>
    clear hrow hint
    obtain ⟨i, vs, b, hi, rfl, hown, hvs, ⟨g, c, rfl⟩, hat, hend, hB⟩ := hrel
    cases b with
    | false =>
      obtain rfl := hend rfl
      go_wp2
      go_ret
      refine ⟨⟨_, ⟨_, rfl⟩, .inr ⟨g, rfl, (hown.lt g rfl).1, fun j hj => ?_⟩⟩, hB⟩
      obtain ⟨gj, cj, h0, h1, h2, h3⟩ := hvs.2 j (by omega)
      refine ⟨gj, cj, h0, ?_, h2, h3⟩
      rw [hown.cellAt j (by omega)]
      exact h1
    | true =>
      obtain ⟨ga, ca, rfl, hai⟩ := hat rfl
      have HO := hide hown
      have HV := hide hvs
      have HB := hide hB
      have HA := hide hai
      clear hown hvs hB hai hat hend
      have hdb : Hid (∀ j, j < len → 0 ≤ (dig xs i)[j]?.getD 0 ∧ (dig xs i)[j]?.getD 0 ≤ 4096) := fun j hj => by
        have hj' : j < xs.length := by rw [HL.out]; exact hj
        have h1 := dig_bd xs i HPOS.out (by omega) (by rw [HNP.out]; omega) j hj'
        have h2 := HZ2.out _ (mem_getD xs j hj')
        omega
      have hnx := next_dig xs i HPOS.out (by omega) (by rw [HNP.out]; omega)
      rw [HNP.out] at hnx
      by_cases hlast : i + 1 < N
      · rw [if_pos (by omega)] at hnx
        have HNX := hide hnx
        clear hnx
        go_wp2_with (first
          | (go_at_call 39; refine (rnext_cap _ _ _ xs _ _ (dig xs i) _ (H.out.below HB.out) HA.out hlen hdb.out).mono ?_; rintro e w2 ⟨⟨g2, c2, rfl, hi2, hg2, hg3, hcp⟩, hb2⟩; rw [HNX.out] at hi2 ⊢; have HI2 := hide hi2; have HB2 := hide hb2; have HO2 := hide (own_below HO.out hb2); clear hi2 hb2)
          | (at_builtin; refine wpList_append_own _ rfl _ _ 45 rfl w.heap.size 22 i0 (.slice none 0 0) 1 24 Tryz.underlying45 HI.out HZ0.out HZ1.out HZ2'.out rfl (by decide) _ _ _ rfl (HO2.out.alloc _) ⟨w2.heap.size, 0, none⟩ 1 1 [.slice (some ⟨g2, 0, none⟩) len c2] rfl rfl (cell_one_new _ _ _) (by simp [Value.oneCell']) (by unfold maxLen; omega) (by omega) (by have := HB.out.size; have := HB2.out.size; simp; omega) ?_; intro v' w3 hown' hgrow hnn; obtain ⟨g', c', rfl⟩ := ownsRow_succ hown'; have HO' := hide hown'; have HG' := hide hgrow; clear hown' hgrow hnn))
        go_wp2
        go_roundw
        case rel =>
          have hv0 : ∃ a l c, vs[0]? = some (.slice a l c) := by obtain ⟨g, c, _, h1, _⟩ := HV.out.2 0 (by omega); exact ⟨_, _, _, h1⟩
          refine ⟨i + 1, vs ++ [.slice (some ⟨g2, 0, none⟩) len c2], true, hlast, rfl, HO'.out, ⟨by simp [HV.out.1], fun j hj => ?_⟩, ⟨_, _, rfl⟩, fun _ => ⟨_, _, rfl, ints_own_grown HI2.out HO2.out hv0 HG'.out⟩, (fun h => by cases h), ?_⟩
          · by_cases hj' : j < i + 1
            · obtain ⟨gj, cj, h0, h1, h2, h3⟩ := HV.out.2 j hj'
              exact ⟨gj, cj, h0, by rw [List.getElem?_append_left (by rw [HV.out.1]; exact hj')]; exact h1, ints_own_grown (h2.below HB2.out) HO2.out hv0 HG'.out, h3⟩
            · obtain rfl : j = i + 1 := by omega
              exact ⟨g2, c2, by have := HB.out.size; omega, by rw [List.getElem?_append_right (by rw [HV.out.1]; omega)]; simp [HV.out.1], ints_own_grown HI2.out HO2.out hv0 HG'.out, hcp⟩
          · have hb := Below.on HB.out HB2.out
            refine (hb.alloc hb.size _).grown HG'.out (by have := hb.size; simp; omega) (fun j e => ?_)
            exact (HO2.out.lt j e).1
        case measure => simp [boolOf, sliceLen]; omega
      · rw [if_neg (by omega)] at hnx
        have HNX := hide hnx
        clear hnx
        go_wp2_with (go_at_call 39; refine (rnext_cap _ _ _ xs _ _ (dig xs i) _ (H.out.below HB.out) HA.out hlen hdb.out).mono ?_; rintro e w2 ⟨⟨g2, c2, rfl, hi2, hg2, hg3, hcp⟩, hb2⟩; rw [HNX.out] at hi2 ⊢; have HI2 := hide hi2; have HB2 := hide hb2; have HO2 := hide (own_below HO.out hb2); clear hi2 hb2)
        go_roundw
        case rel =>
          exact ⟨i, vs, false, hi, rfl, HO2.out, ⟨HV.out.1, fun j hj => by obtain ⟨gj, cj, h0, h1, h2, h3⟩ := HV.out.2 j hj; exact ⟨gj, cj, h0, h1, h2.below HB2.out, h3⟩⟩, ⟨_, _, rfl⟩, (fun h => by cases h), fun _ => by omega, Below.on HB.out HB2.out⟩
        case measure => simp [boolOf, sliceLen]; omega

theorem rall_anyC (a : Option Addr) (len cap : Nat) (xs : List Int) (w : World) (h : Ints w a len xs) (hE : sizeE xs = 0) :
    Calls Tryz.prog 23 #[.slice a len cap] w fun e w' => (∃ (A : Option Addr) (c : Nat), e = .returned (.slice A (prod xs).toNat c) ∧ ListsC w' w.heap.size A (prod xs).toNat len (fun i => dig xs i)) ∧ Below w.heap.size w w' := by
  rcases dims_cases hE with ⟨_, h1, h2⟩ | ⟨h1, _⟩
  · rw [h2]
    refine (rall_none a len cap xs w h hE h1).mono ?_
    rintro e w' ⟨rfl, hb⟩
    exact ⟨⟨none, 0, rfl, .inl rfl⟩, hb⟩
  · exact rall_okC a len cap xs w h hE h1
end Go.Proofs.YtoagnhppjlcpkaaGreat.V

/-
  Contract: adjointref2.Do, where it tells no error, over what entry tells.
-/
namespace Go.Proofs.YtoagnhppjlcpkaaGreat.V
set_option maxRecDepth 20000
open Go.RowKit

theorem ints_grown' {w w' : World} {g n : Nat} {xs : List Int} {row : Option Nat} (h : Ints w (some ⟨g, 0, none⟩) n xs) (hg : w.grownBy w' row) (hne : 0 < n → some g ≠ row) : Ints w' (some ⟨g, 0, none⟩) n xs := by
  obtain ⟨h1, h2, h3, h4⟩ := h
  refine ⟨h1, h2, h3, ?_⟩
  rcases h4 with h4 | ⟨b, off, e, hc⟩
  · exact .inl h4
  by_cases h0 : n = 0
  · exact .inl h0
  refine .inr ⟨b, off, e, fun j hj => ?_⟩
  cases e
  have c := hc j hj
  exact (World.cell?_of_block (hg.block g (lt_of_cell c) (hne (by omega)))).trans c
theorem ints_save' {w w' : World} {g n O : Nat} {xs : List Int} (h : Ints w (some ⟨g, 0, none⟩) n xs) (hs : Save O w w') (hne : g ≠ O) : Ints w' (some ⟨g, 0, none⟩) n xs := by
  obtain ⟨h1, h2, h3, h4⟩ := h
  refine ⟨h1, h2, h3, ?_⟩
  rcases h4 with h4 | ⟨b, off, e, hc⟩
  · exact .inl h4
  refine .inr ⟨b, off, e, fun j hj => ?_⟩
  cases e
  have c := hc j hj
  exact (World.cell?_of_block (hs.1 g (lt_of_cell c) hne)).trans c
theorem grown_trans {row : Option Nat} (w w' w'' : World) (h : w.grownBy w' row) (k : w'.grownBy w'' row) : w.grownBy w'' row :=
  ⟨k.os.trans h.os, k.tape.trans h.tape, k.output.trans h.output, Nat.le_trans h.size k.size, fun i hi hne => (k.block i (Nat.lt_of_lt_of_le hi h.size) hne).trans (h.block i hi hne)⟩
theorem grown_of {row : Option Nat} (w w' : World) (h : Below w.heap.size w w') : w.grownBy w' row := ⟨h.os, h.tape, h.output, h.size, fun i hi _ => h.block i hi⟩
theorem wp_append_own {P : Program} {w : World} {o : Oper} {a : Act} {K : Act → World → Prop} {Q : Exit → Act → World → Prop} (s x : Operand) (t e : TypeId) (ho : o.op = .call { callee := .builtin .append, args := #[s, x], argTypes := #[t, t] })
    (ht : P.underlying t = some (.slice e)) (hi : (P.info? e).map (fun i => (i.zero, i.size, i.bytes)) = some (some (.int .i64 0), 1, 8)) (base : Nat) (v : Value) (n : Nat) (xs : List Value) (hs : a.eval s = v) (hown : w.ownsRow base e 1 v n xs)
    (B : Nat) (y : Int) (hx : a.eval x = .slice (some ⟨B, 0, none⟩) 1 1) (hy : w.cell? ⟨B, 0, none⟩ = some (.int .i64 y)) (h63 : n ≤ 65536) (hbase : base ≤ w.heap.size)
    (h : ∀ v' w', w'.ownsRow base e 1 v' (n + 1) (xs ++ [.int .i64 y]) → w.grownBy w' v.ownBlock → K (a.put o.dst v') w') : o.wp P a w K Q := by
  obtain ⟨i, hi1, hz, hsz, hby⟩ : ∃ i, P.info? e = some i ∧ i.zero = some (.int .i64 0) ∧ i.size = 1 ∧ i.bytes = 8 := by
    cases hh : P.info? e with
    | none => rw [hh] at hi; cases hi
    | some i =>
      rw [hh] at hi
      simp only [Option.map_some, Option.some.injEq, Prod.mk.injEq] at hi
      exact ⟨i, rfl, hi.1, hi.2.1, hi.2.2⟩
  obtain ⟨v', w', hr, h2, h3, h4, h5⟩ := run_append_own_at (P := P) w base t o.type e i (.int .i64 0) 1 8 ht hi1 hz hsz hby rfl (by decide) v n xs hown ⟨B, 0, none⟩ 1 1 [.int .i64 y] rfl (fun j u hj => by
    match j, hj with
    | 0, hj =>
      simp at hj
      subst hj
      rw [Go.WideShapes.add_plain]
      exact hy) (by simp [Value.oneCell']) (by unfold maxLen; omega) (by omega) hbase
  unfold Oper.wp execOp
  simp only [ho, resolve, invoke, builtin, Sem.run_bind, Sem.run_pure, Result.andThen_ok, List.map_toArray, List.map_cons, List.map_nil, hs, hx, hr]
  exact h v' w' h2 h3
/-- A new cell, out of the row. -/
def fCell (row : Option Nat) (y : Int) : Fact := ⟨fun u W => ∃ B, u = .slice (some ⟨B, 0, none⟩) 1 1 ∧ W.cell? ⟨B, 0, none⟩ = some (.int .i64 y) ∧ some B ≠ row, false⟩
theorem fCell_good (row : Option Nat) (y : Int) : (fCell row y).GoodR (fun a b => a.grownBy b row) false := ⟨fun _ _ _ ⟨B, h1, h2, h3⟩ hb => ⟨B, h1, (hb.cell (p := ⟨B, 0, none⟩) (lt_of_cell h2)).trans h2, h3⟩, fun _ _ _ _ ⟨B, h1, h2, h3⟩ hg => ⟨B, h1, (World.cell?_of_block (hg.block B (lt_of_cell h2) h3)).trans h2, h3⟩, fun h => by cases h⟩
/-- The row that has grown. -/
def fOwn (base : Nat) (t : TypeId) (n : Nat) (xs : List Value) : Fact := ⟨fun u W => W.ownsRow base t 1 u n xs, false⟩
theorem fOwn_good (base : Nat) (t : TypeId) (n : Nat) (xs : List Value) (R : World → World → Prop) : (fOwn base t n xs).GoodR R true := ⟨fun _ _ _ h hb => own_below h hb, (fun h => by cases h), (fun h => by cases h)⟩
theorem fIs_goodR (c : Value) (R : World → World → Prop) (b : Bool) : (fIs c).GoodR R b := ⟨fun _ _ _ h _ => h, fun _ _ _ _ h _ => h, fun h => by cases h⟩
def entRow (f : Nat → Int) (j : Nat) : List Value := ((List.range j).map f).map (Value.int .i64)
theorem entRow_succ (f : Nat → Int) (j : Nat) : entRow f (j + 1) = entRow f j ++ [.int .i64 (f j)] := by simp [entRow, List.range_succ]
theorem ArrAt.set1 {w : World} {b : Nat} {c0 c1 : Value} (h : ArrAt w b c0 c1) (d : Value) : ArrAt (w.setCell ⟨b, 1, none⟩ d) b c0 d := by
  unfold ArrAt at *
  simp [World.setCell, Array.getElem?_modify, h]
theorem Save.set {O : Nat} {w w' : World} (h : Save O w w') (i : Nat) (u : Value) : Save O w (w'.setCell ⟨O, i, none⟩ u) :=
  ⟨fun c hc hne => (Below.heap_setCell _ _ _ _ hne).trans (h.1 c hc hne), h.2.setCell (p := ⟨O, i, none⟩) (Nat.zero_le _) u⟩
theorem Save.grown {O : Nat} {w w' w'' : World} {row : Option Nat} (h : Save O w w') (hg : w'.grownBy w'' row) (hr : ∀ i, row = some i → w.heap.size ≤ i) : Save O w w'' :=
  ⟨fun c hc hne => (hg.block c (Nat.lt_of_lt_of_le hc h.2.size) (fun e => by have := hr c e.symm; omega)).trans (h.1 c hc hne), h.2.grown hg (Nat.zero_le _) (fun _ _ => Nat.zero_le _)⟩

theorem arrE_of' {L : List Int} (h : sizeE L = 0) : arrE L (prod L).toNat = 0 := by
  have hn : 0 ≤ prod L := by
    by_cases p : ∀ x ∈ L, 1 ≤ x
    · have := prod_pos L p; omega
    · have hz : (0 : Int) ∈ L := by
        simp only [Classical.not_forall] at p
        obtain ⟨x, hx, hn⟩ := p
        have := (sizeE_ok h).2.1 x hx
        obtain rfl : x = 0 := by omega
        exact hx
      have e := (sizeE_ok h).2.2.2 hz
      rw [size_prod h] at e
      omega
  unfold arrE
  rw [if_neg (by rw [h]; simp), if_neg (by rw [size_prod h]; simp; omega)]

set_option maxRecDepth 100000 in
set_option maxHeartbeats 1500000 in
theorem rDo_good (k x : Int) (ea : Option Addr) (el ec : Nat) (es : List Int) (pa : Option Addr) (pl pc : Nat) (ps : List Int) (la : Option Addr) (ll lc : Nat) (lo : List Int) (ha : Option Addr) (hl hc : Nat) (hi : List Int) (ta : Option Addr) (tl tc : Nat) (st : List Int) (A : Option Addr) (m cap : Nat) (v : Nat → ArrV) (L : List Int) (f : Nat → Int) (w : World)
    (he : Lst w ea el ec es) (hp : Lst w pa pl pc ps) (hlo : Lst w la ll lc lo) (hhi : Lst w ha hl hc hi) (hst : Lst w ta tl tc st) (b0 : el ≤ 1048576) (b1 : pl ≤ 1048576) (b2 : ll ≤ 1048576) (b3 : hl ≤ 1048576) (b4 : tl ≤ 1048576) (hA : Arrs w A m v) (hm : m ≤ 1048576) (hE : doE k es ps lo hi st m v = 0) (hL : L = (dimsP k es ps lo hi st (dimsOf m v)).1) (hfb : ∀ n, n < (prod L).toNat → -9223372036854775808 ≤ f n ∧ f n ≤ 9223372036854775807)
    (hent : ∀ W, Below w.heap.size w W → ∀ n : Nat, n < (prod L).toNat → ∀ g c, Ints W (some ⟨g, 0, none⟩) L.length (dig L n) → L.length ≤ c → Calls Tryz.prog 24 #[.agg #[.int .i64 k, .slice ea el ec, .slice pa pl pc, .slice la ll lc, .slice ha hl hc, .slice ta tl tc, .int .i64 x], .slice A m cap, .slice (some ⟨g, 0, none⟩) L.length c, .int .i64 n] W fun e w' => e = .returned (.int .i64 (f n)) ∧ Below W.heap.size W w') :
    Calls Tryz.prog 8 #[.agg #[.int .i64 k, .slice ea el ec, .slice pa pl pc, .slice la ll lc, .slice ha hl hc, .slice ta tl tc, .int .i64 x], .slice A m cap] w fun e w' => (∃ (Z : Option Addr) (nz cz : Nat) (G : Option Addr) (cg : Nat), e = .returned (.tuple #[.agg #[.slice Z nz cz, .slice G (prod L).toNat cg], .int .i64 0]) ∧ (Ints w' Z nz L ∧ nz ≤ cz) ∧ Ints w' G (prod L).toNat ((List.range (prod L).toNat).map f)) ∧ Below w.heap.size w w' := by
  obtain ⟨c1, c2, c3⟩ := doE_ok hE
  have hz := dimsP_ok c3
  rw [← hL] at hz
  have HDP : Hid (dimsP k es ps lo hi st (dimsOf m v) = (L, 0)) := by
    rw [Hid, hL]
    exact Prod.ext rfl c3
  have HC1 := hide c1
  have HOK := hide (arrsE_ok m c2)
  have HZ := hide hz
  obtain ⟨N, hN⟩ : ∃ N, N = (prod L).toNat := ⟨_, rfl⟩
  rw [← hN] at hent hfb ⊢
  have hN6 : N ≤ 65536 := by have := (arrE_ok (arrE_of' hz)).2.2; omega
  have HNN := hide hN
  have HENT := hide hent
  have HFB := hide hfb
  clear c1 c2 c3 hz hN hent hfb hL
  have HE := hide he
  have HP := hide hp
  have HLO := hide hlo
  have HHI := hide hhi
  have HST := hide hst
  have HAA := hide hA
  have HB2 := hide (((Below.refl w.heap.size w).alloc (Nat.le_refl _) (.cells #[.int .i64 k, .slice ea el ec, .slice pa pl pc, .slice la ll lc, .slice ha hl hc, .slice ta tl tc, .int .i64 x] 24)).alloc (by simp) (.cells #[.slice none 0 0, .slice none 0 0] 28))
  have HOP := hide ((OpAt.new w k (.slice ea el ec) (.slice pa pl pc) (.slice la ll lc) (.slice ha hl hc) (.slice ta tl tc) x).alloc (.cells #[.slice none 0 0, .slice none 0 0] 28))
  have har := ArrAt.new (w.alloc (.cells #[.int .i64 k, .slice ea el ec, .slice pa pl pc, .slice la ll lc, .slice ha hl hc, .slice ta tl tc, .int .i64 x] 24)) (.slice none 0 0) (.slice none 0 0)
  simp only [World.size_alloc] at har
  have HAR := hide har
  obtain ⟨o0, o1, o2, o3, o4, o5, o6⟩ := HOP.out.cells
  obtain ⟨⟨r0, r1⟩, fr0, fr1⟩ := HAR.out.cells
  obtain ⟨i0, hi0, hz0, hz1, hz2⟩ := info_parts info_ints
  have HI := hide hi0
  have HZ0 := hide hz0
  have HZ1 := hide hz1
  have HZ2' := hide hz2
  clear he hp hlo hhi hst hA har hE hi0 hz0 hz1 hz2
  go_enter Tryz.func8, Tryz.ntmps8
  go_wp2_with (go_at_call 20; refine (right_any _ _ _ _ _ _ _ _ _).mono ?_; rintro e w1 ⟨rfl, hb1⟩; rw [HC1.out]; have HB3 := hide (Below.on HB2.out hb1); have HO3 := hide (HOP.out.below hb1); have HA3 := hide (HAR.out.below hb1); have HSZ := hide (show w.heap.size + 2 ≤ w1.heap.size by have := hb1.size; simp at this; omega); clear hb1 o0 o1 o2 o3 o4 o5 o6 r0 r1 fr0 fr1)
  go_loopw [7, 26] (fun ds i wr => ∃ j : Nat, j ≤ m ∧ i = .int .i64 j ∧ (∀ t, t < j → arrE (v t).ds (v t).xl = 0) ∧ wr.ownsRow (w.heap.size + 2) 22 1 ds j (dimRow v j) ∧ OpAt wr w.heap.size k (.slice ea el ec) (.slice pa pl pc) (.slice la ll lc) (.slice ha hl hc) (.slice ta tl tc) x ∧ ArrAt wr (w.heap.size + 1) (.slice none 0 0) (.slice none 0 0) ∧ Below w.heap.size w wr ∧ w.heap.size + 2 ≤ wr.heap.size) (fun _ i _ => m - (intOf i).toNat)
  case atStart => exact ⟨0, by omega, rfl, fun t ht => by omega, World.ownsRow_nil _ _ _ _, HO3.out, HA3.out, HB3.out, HSZ.out⟩
  case round =>
    clear HB3 HO3 HA3 HSZ
    obtain ⟨j, hj, rfl, hgood, hrow, hop, har, hB, hsz⟩ := hrel
    have HG := hide hgood
    have HR := hide hrow
    have HO := hide hop
    have HA := hide har
    have HB := hide hB
    have HSZ := hide hsz
    clear hgood hrow hop har hB hsz
    by_cases hlt : j < m
    · obtain ⟨b, off, rfl, hcs⟩ := HAA.out.resolve_left (by omega)
      obtain ⟨d0, d1, hl⟩ := hcs j hlt
      have hbl : b < w.heap.size := lt_of_cell d0
      obtain ⟨⟨da, dl, dc, ds, xa, xl, xc⟩, hv⟩ : ∃ u, u = v j := ⟨_, rfl⟩
      rw [← hv] at d0 d1 hl
      simp only [ArrV.d, ArrV.x] at d0 d1 hl
      have s0 := (HB.out.cell (p := ⟨b, off + j * 2, none⟩) hbl).trans d0
      have s1 := (HB.out.cell (p := ⟨b, off + j * 2 + 1, none⟩) hbl).trans d1
      have HL := hide hl
      have HV := hide hv
      have HAN := hide (ArrAt.new wr (.slice da dl dc) (.slice xa xl xc))
      have HBN := hide (HB.out.alloc HB.out.size (.cells #[.slice da dl dc, .slice xa xl xc] 28))
      have HAB := hide (HA.out.alloc (.cells #[.slice da dl dc, .slice xa xl xc] 28))
      obtain ⟨⟨a0, a1⟩, _⟩ := HAN.out.cells
      clear hcs d0 d1 hl hv
      by_cases e1 : arrE ds xl = 0
      · have HE1 := hide e1
        clear e1
        go_wp2_with (first
          | (go_at_call 21; refine (rawrong_any da dl dc ds xa xl xc _ (HL.out.1.below HBN.out)).mono ?_; rintro e w1 ⟨rfl, hb⟩; rw [HE1.out]; have HB3 := hide (Below.on HBN.out hb); have HA3 := hide (HAB.out.below hb); have HO3 := hide ((HO.out.alloc _).below hb); have HR3 := hide (own_below (HR.out.alloc _) hb); have HAN3 := hide (HAN.out.below hb); have HSZ3 := hide (show w.heap.size + 2 ≤ w1.heap.size by have := hb.size; have := HSZ.out; simp at *; omega); clear a0 a1 hb; obtain ⟨⟨a0, a1⟩, _⟩ := HAN3.out.cells)
          | (at_builtin; refine wpList_append_own _ rfl _ _ 45 rfl (w.heap.size + 2) 22 i0 (.slice none 0 0) 1 24 Tryz.underlying45 HI.out HZ0.out HZ1.out HZ2'.out rfl (by decide) _ _ _ rfl (HR3.out.alloc _) ⟨w1.heap.size, 0, none⟩ 1 1 [.slice da dl dc] rfl rfl (cell_one_new _ _ _) (by simp [Value.oneCell']) (by unfold maxLen; omega) (by omega) (by have := HSZ3.out; simp; omega) ?_; intro v' w3 hown' hgrow hnn; have HO' := hide hown'; have HG' := hide hgrow; clear hown' hgrow hnn))
        go_roundw
        case rel =>
          refine ⟨j + 1, by omega, by go_num, fun t ht => ?_, by rw [dimRow_succ, ← HV.out]; exact HO'.out, (HO3.out.alloc _).grown HG'.out (own_ne HR3.out (by omega)), (HA3.out.alloc _).grown HG'.out (own_ne HR3.out (by omega)), ?_, ?_⟩
          · by_cases e : t = j
            · rw [e, ← HV.out]; exact HE1.out
            · exact HG.out t (by omega)
          · exact (HB3.out.alloc HB3.out.size _).grown HG'.out (by have := HB3.out.size; simp; omega) (fun i e => by have := (HR3.out.lt i e).1; omega)
          · have := HG'.out.size
            have := HSZ3.out
            simp at *
            omega
        case measure => simp [intOf]; omega
      · exact absurd (by have := HOK.out j hlt; rw [← HV.out] at this; exact this) e1
    · obtain rfl : m = j := by omega
      obtain ⟨R, rc, rfl, hrc, hrow⟩ := own_row HR.out
      have HLS : Hid (Lsts wr R m (dimsOf m v)) := by
        refine ⟨dimsOf_len _ _, by omega, ?_⟩
        rcases hrow with h0 | ⟨g, rfl, _, hcell⟩
        · exact .inl h0
        · by_cases h0 : m = 0
          · exact .inl h0
          refine .inr ⟨_, _, rfl, fun t ht => ?_⟩
          obtain ⟨b, off, rfl, hcs⟩ := HAA.out.resolve_left h0
          have := hcell t ht
          refine ⟨(v t).da, (v t).dl, (v t).dc, ?_, by rw [dimsOf_at _ _ _ ht]; exact (hcs t ht).2.2.below HB.out⟩
          rw [Nat.zero_add, this]
          simp [dimRow, ht, ArrV.d]
      have HCD := hide (rDims_any k x _ _ ec es _ _ pc ps _ _ lc lo _ _ hc hi _ _ tc st _ _ rc (dimsOf m v) wr (HE.out.below HB.out) (HP.out.below HB.out) (HLO.out.below HB.out) (HHI.out.below HB.out) (HST.out.below HB.out) HLS.out hrc hm b0 b1 b2 b3 b4)
      obtain ⟨o0, o1, o2, o3, o4, o5, o6⟩ := HO.out.cells
      clear hrow hrc
      go_wp2_with (first
        | (go_at_call 23; refine (rall_anyC Z _ cz L _ (HI1.out.below ((Below.refl _ _).alloc (Nat.le_refl _) _)) HZ.out).mono ?_; rintro e w2 ⟨⟨R2, c2, rfl, hls⟩, hb2⟩; rw [← HNN.out] at hls ⊢; have HLS2 := hide hls; have HAO2 := hide (HAO1.out.below hb2); have HB4 := hide (Below.on (HB3.out.alloc HB3.out.size _) hb2); have HA4 := hide ((HA3.out.alloc _).below hb2); have HO4 := hide ((HO3.out.alloc _).below hb2); have HI2 := hide ((HI1.out.below ((Below.refl _ _).alloc (Nat.le_refl _) _)).below hb2); have HB12 := hide (Below.on ((Below.refl _ w1).alloc (Nat.le_refl _) _) hb2); have HSZ2 := hide (show w1.heap.size + 1 ≤ w2.heap.size by have := hb2.size; simpa using this); clear hls hb2)
        | (go_at_call 22; refine HCD.out.mono ?_; rintro e w1 ⟨⟨Z, nz, cz, rfl, hi1, hnc⟩, hb⟩; simp only [HDP.out] at hi1 ⊢; have HI1 := hide hi1; have HB3 := hide (Below.on HB.out hb); have HA3 := hide (HA.out.below hb); have HO3 := hide (HO.out.below hb); have hw1 := (show w.heap.size + 2 ≤ w1.heap.size by have h1 := hb.size; have h2 := HSZ.out; omega); have HAO1 := hide (ArrAt.new w1 (.slice Z nz cz) (.slice none 0 0)); clear hi1 hb o0 o1 o2 o3 o4 o5 o6))
      obtain rfl : L.length = nz := HI2.out.1
      obtain ⟨O, hO⟩ : ∃ O, O = w1.heap.size := ⟨_, rfl⟩
      rw [World.size_alloc, ← hO] at HLS2
      rw [← hO] at HAO2 HSZ2 hw1 ⊢
      have HOO := hide hO
      have hO2 : O < w2.heap.size := by have := HSZ2.out; omega
      clear hO HR HLS HCD HO HA HB HAO1 HB3 HA3 HO3 HSZ
      go_loopw [57] (fun i wr => ∃ (t : Nat) (vv : Value), t ≤ N ∧ i = .int .i64 t ∧ ArrAt wr O (.slice Z L.length cz) vv ∧ wr.ownsRow w2.heap.size 2 1 vv t (entRow f t) ∧ Save O w2 wr) (fun i _ => N - (intOf i).toNat)
      case atStart => exact ⟨0, .slice none 0 0, Nat.zero_le _, rfl, HAO2.out, World.ownsRow_nil _ _ _ _, ⟨fun _ _ _ => rfl, Below.refl _ _⟩⟩
      case round =>
        obtain ⟨t, vv, ht, rfl, hao, hx, hsv⟩ := hrel
        have HAO := hide hao
        have HX := hide hx
        have HSV := hide hsv
        clear hao hx hsv
        have HNO := hide (own_ne HX.out hO2)
        have HNP := hide (own_ne (b := w.heap.size) HX.out (by omega))
        have HOP2 : Hid (OpAt _ w.heap.size k (.slice ea el ec) (.slice pa pl pc) (.slice la ll lc) (.slice ha hl hc) (.slice ta tl tc) x) := (HSV.out.1 _ HO4.out.lt (by omega)).trans HO4.out
        have HBW := hide (Save.below HB4.out HSV.out (show w.heap.size ≤ O by omega) (Nat.le_refl _))
        have HROW : Hid (∀ i, vv.ownBlock = some i → w.heap.size ≤ i) := fun i e => by have := (HX.out.lt i e).1; omega
        by_cases hlt : t < N
        · obtain ⟨b2, rfl, hB2, hcs⟩ := HLS2.out.resolve_left (by omega)
          obtain ⟨gj, cj, hgj, hcell, hint, hcj⟩ := hcs t hlt
          have hcc := (World.cell?_of_block (HSV.out.1 b2 (lt_of_cell hcell) (by omega))).trans hcell
          have HIJ := hide (ints_save' hint HSV.out (by omega))
          have HNG : Hid (0 < L.length → some gj ≠ vv.ownBlock) := fun h0 => by
            obtain ⟨b', off', e', hb', _⟩ := hint.at h0
            cases e'
            exact own_ne HX.out hb'
          clear hcs hcell hint
          go_wp2_with fail
          refine region_madeR (fun a b => a.grownBy b vv.ownBlock) (fun _ _ _ h k => grown_trans _ _ _ h k) (fun _ _ h => grown_of _ _ h) 8 10 14 [fIs (.pointer (some ⟨O, 1, none⟩)), fIs vv, fIs (.agg #[.int .i64 k, .slice ea el ec, .slice pa pl pc, .slice la ll lc, .slice ha hl hc, .slice ta tl tc, .int .i64 x]), fIs (.slice A m cap), fIs (.slice (some ⟨gj, 0, none⟩) L.length cj), fIs (.int .i64 (t : Int)), fIs (.int .i64 (f t)), fCell vv.ownBlock (f t), fOwn w2.heap.size 2 (t + 1) (entRow f t ++ [.int .i64 (f t)]), fIs (.pointer (some ⟨O, 1, none⟩))] (by kernel_rfl) (by kernel_rfl) (by kernel_rfl) (fun _ ⟨_, _⟩ ⟨_, _⟩ _ e h => by cases e; exact h) ⟨fIs_goodR _ _ _, fIs_goodR _ _ _, fIs_goodR _ _ _, fIs_goodR _ _ _, fIs_goodR _ _ _, fIs_goodR _ _ _, fIs_goodR _ _ _, fCell_good _ _, fOwn_good _ _ _ _ _, fIs_goodR _ _ _, trivial⟩ ?mk ?rest
          case mk =>
            refine ⟨fun u wz hb hs hd => ?_, fun u wz hb hs hd => ?_, fun u wz hb hs hd => ?_, fun u wz hb hs hd => ?_, fun u wz hb hs hd => ?_, fun u wz hb hs hd => ?_, fun u wz hb hs hd => ?_, fun u wz hb hs hd => ?_, fun u wz hb hs hd => ?_, fun u wz hb hs hd => ?_, trivial⟩
            all_goals simp only [Act.put, List.setIfInBounds_toArray, List.set_cons_zero, List.set_cons_succ]
            · go_simp
              exact ⟨rfl, St.of (Below.refl _ _) (by decide), fun h => by cases h⟩
            · have e0 : u 0 = .pointer (some ⟨O, 1, none⟩) := hd 0 (by omega) (by kernel_rfl)
              rw [e0]
              obtain ⟨⟨x0, x1⟩, _⟩ := (HAO.out.grown hb HNO.out).cells
              go_simp
              exact ⟨rfl, St.of (Below.refl _ _) (by decide), fun h => by cases h⟩
            · obtain ⟨o0, o1, o2, o3, o4, o5, o6⟩ := (HOP2.out.grown hb HNP.out).cells
              go_simp
              exact ⟨rfl, St.of (Below.refl _ _) (by decide), fun h => by cases h⟩
            · go_simp
              exact ⟨rfl, St.of (Below.refl _ _) (by decide), fun h => by cases h⟩
            · go_simp
              exact ⟨rfl, St.of (Below.refl _ _) (by decide), fun h => by cases h⟩
            · go_simp
              exact ⟨rfl, St.of (Below.refl _ _) (by decide), fun h => by cases h⟩
            · have e2 : u 2 = .agg #[.int .i64 k, .slice ea el ec, .slice pa pl pc, .slice la ll lc, .slice ha hl hc, .slice ta tl tc, .int .i64 x] := hd 2 (by omega) (by kernel_rfl)
              have e3 : u 3 = .slice A m cap := hd 3 (by omega) (by kernel_rfl)
              have e4 : u 4 = .slice (some ⟨gj, 0, none⟩) L.length cj := hd 4 (by omega) (by kernel_rfl)
              have e5 : u 5 = .int .i64 (t : Int) := hd 5 (by omega) (by kernel_rfl)
              rw [e2, e3, e4, e5]
              go_simp
              refine (HENT.out wz (HBW.out.grown hb HBW.out.size (fun i e => HROW.out i e)) t hlt gj cj (ints_grown' HIJ.out hb HNG.out) hcj).mono ?_
              rintro e w3 ⟨rfl, hb2⟩
              exact ⟨rfl, St.of hb2 (by decide), fun h => by cases h⟩
            · have e6 : u 6 = .int .i64 (f t) := hd 6 (by omega) (by kernel_rfl)
              rw [e6]
              go_simp
              refine ⟨⟨_, rfl, ?_, ?_⟩, St.of ((Below.refl _ _).alloc (Nat.le_refl _) _) (by decide), fun h => by cases h⟩
              · have := cell_one_new wz (.int .i64 (f t)) 2 0 _ rfl
                rwa [Go.WideShapes.add_plain] at this
              · intro e
                have h1 := HX.out.lt _ e.symm
                have h2 := hb.size
                omega
            · have e1 : u 1 = vv := hd 1 (by omega) (by kernel_rfl)
              obtain ⟨B7, e7, h7, _⟩ := hd 7 (by omega) (by kernel_rfl)
              rw [e1, e7]
              refine wp_append_own (.tmp 63) (.tmp 69) 26 2 rfl Tryz.underlying26 info_int64 w2.heap.size vv t (entRow f t) rfl (own_below HX.out (hs rfl)) B7 (f t) rfl h7 (by omega) (by have h1 := hb.size; have h2 := HSV.out.2.size; omega) (fun v' w3 hown hg => ?_)
              exact ⟨v', rfl, hown, St.at hg, fun h => by cases h⟩
            · go_simp
              exact ⟨rfl, St.of (Below.refl _ _) (by decide), fun h => by cases h⟩
          case rest =>
            intro u wz hb hf hp
            have f0 : u 0 = .pointer (some ⟨O, 1, none⟩) := hf 0 (by omega)
            have f1 : u 1 = vv := hf 1 (by omega)
            have f2 : u 2 = .agg #[.int .i64 k, .slice ea el ec, .slice pa pl pc, .slice la ll lc, .slice ha hl hc, .slice ta tl tc, .int .i64 x] := hf 2 (by omega)
            have f3 : u 3 = .slice A m cap := hf 3 (by omega)
            have f4 : u 4 = .slice (some ⟨gj, 0, none⟩) L.length cj := hf 4 (by omega)
            have f5 : u 5 = .int .i64 (t : Int) := hf 5 (by omega)
            have f6 : u 6 = .int .i64 (f t) := hf 6 (by omega)
            obtain ⟨_, f7, _, _⟩ := hf 7 (by omega)
            have hown : wz.ownsRow w2.heap.size 2 1 (u 8) (t + 1) (entRow f t ++ [.int .i64 (f t)]) := hf 8 (by omega)
            have f9 : u 9 = .pointer (some ⟨O, 1, none⟩) := hf 9 (by omega)
            obtain ⟨v8, f8⟩ : ∃ v8, u 8 = v8 := ⟨_, rfl⟩
            rw [f8] at hown
            refine UptoW.rest 1 10 (by rfl) (by kernel_rfl) ?_
            simp only [List.take, List.drop, putOps, Act.put, List.setIfInBounds_toArray, List.set_cons_zero, List.set_cons_succ, Nat.reduceAdd, f0, f1, f2, f3, f4, f5, f6, f7, f8, f9]
            clear f0 f1 f2 f3 f4 f5 f6 f7 f8 f9 hf hp
            obtain ⟨A8, c8, e8, _⟩ := own_row hown
            subst e8
            have hao := HAO.out.grown hb HNO.out
            obtain ⟨⟨x0, x1⟩, z0, z1⟩ := hao.cells
            refine wpList_plain rfl (fun K hK => ?_)
            go_simp
            refine hK _ _ (wpList_nil ?_)
            clear hK K
            have HX3 := hide (ownsRow_setCell_other (a := ⟨O, 1, none⟩) hown (fun e => own_ne hown hO2 e.symm) (.slice A8 (t + 1) c8))
            have HA4 := hide (hao.set1 (.slice A8 (t + 1) c8))
            have HS4 := hide ((HSV.out.grown hb (fun i e => (HX.out.lt i e).1)).set 1 (.slice A8 (t + 1) c8))
            clear hown hao x0 x1 z0 z1 hb
            go_wp2
            go_roundw
            case rel =>
              refine ⟨t + 1, _, by omega, by go_num, HA4.out, ?_, HS4.out⟩
              rw [entRow_succ]
              exact HX3.out
            case measure => simp [intOf]; omega
        · obtain rfl : N = t := by omega
          obtain ⟨⟨x0, x1⟩, _⟩ := HAO.out.cells
          have HA5 : Hid (ArrAt _ (w.heap.size + 1) (.slice none 0 0) (.slice none 0 0)) := (HSV.out.1 _ HA4.out.lt (by omega)).trans HA4.out
          obtain ⟨⟨r0, r1⟩, fr0, fr1⟩ := HA5.out.cells
          obtain ⟨A8, c8, e8, _, h8⟩ := own_row HX.out
          subst e8
          have HIZ := hide (ints_save HI1.out HB12.out (by rw [← HOO.out]; exact HSV.out))
          have HID : Hid (Ints wr A8 N ((List.range N).map f)) := by
            refine ⟨by simp, by omega, fun y hy => ?_, ?_⟩
            · simp only [List.mem_map, List.mem_range] at hy
              obtain ⟨i, hi', rfl⟩ := hy
              exact HFB.out i hi'
            · rcases h8 with h8 | ⟨g8, rfl, _, hc8⟩
              · exact .inl h8
              · refine .inr ⟨g8, 0, rfl, fun i hi' => ?_⟩
                rw [Nat.zero_add, hc8 i hi']
                simp [entRow, hi']
          clear h8
          go_wp2
          obtain ⟨⟨u0, u1⟩, _⟩ := (HA5.out.put (.slice Z L.length cz) (.slice A8 N c8)).cells
          refine bodyPost_ret (v := .tuple #[.agg #[.slice Z L.length cz, .slice A8 N c8], .int .i64 0]) (by simp [results, Tryz.results8, go_sem, u0, u1]) rfl ⟨⟨Z, L.length, cz, A8, c8, rfl, ⟨?_, hnc⟩, ?_⟩, ?_⟩
          · exact ints_put_arr HIZ.out HA5.out (fun _ _ e => by cases e) (fun _ _ e => by cases e) _ _
          · exact ints_put_arr HID.out HA5.out (fun _ _ e => by cases e) (fun _ _ e => by cases e) _ _
          · exact (HBW.out.setCell (p := ⟨w.heap.size + 1, 0, none⟩) (by simp) _).setCell (p := ⟨w.heap.size + 1, 1, none⟩) (by simp) _
end Go.Proofs.YtoagnhppjlcpkaaGreat.V

/-
  Contract: adjointref2.entry, of Take.
-/
namespace Go.Proofs.YtoagnhppjlcpkaaGreat.V
set_option maxRecDepth 20000
open Go.RowKit

/-- A list. -/
def fLst (xs : List Int) : Fact := ⟨fun v w => ∃ X n c, v = .slice X n c ∧ Lst w X n c xs, false⟩
theorem fLst_good (xs : List Int) : (fLst xs).Good := ⟨fun _ _ _ ⟨X, n, c, h1, h2⟩ hb => ⟨X, n, c, h1, h2.below hb⟩, fun h => by cases h⟩

end Go.Proofs.YtoagnhppjlcpkaaGreat.V

/-
  Contract: adjointref2.Do, of Take.
-/
namespace Go.Proofs.YtoagnhppjlcpkaaGreat.V
set_option maxRecDepth 20000
open Go.RowKit

end Go.Proofs.YtoagnhppjlcpkaaGreat.V
