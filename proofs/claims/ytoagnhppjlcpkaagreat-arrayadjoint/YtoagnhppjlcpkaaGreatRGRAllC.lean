/-
  Contract: adjointref2.Get.
-/
import Derived.Test.YtoagnhppjlcpkaaGreatRGSteps
import Derived.Test.YtoagnhppjlcpkaaGreatRHArrWrong
import Derived.Test.YtoagnhppjlcpkaaGreatRGArrWork
import Derived.Test.YtoagnhppjlcpkaaGreatRGLapse
import Derived.Test.YtoagnhppjlcpkaaGreatRGArrDoBad
import Derived.Test.YtoagnhppjlcpkaaGreatRGRReads
import Derived.Test.YtoagnhppjlcpkaaGreatRGArrEach
import Derived.Test.YtoagnhppjlcpkaaGreatRGArrSubs
import Derived.Test.YtoagnhppjlcpkaaGreatRGLinMath
namespace Go.Proofs.YtoagnhppjlcpkaaGreat.V
set_option maxRecDepth 20000
open Go.RowKit

set_option maxHeartbeats 1000000 in
theorem rget_any (da : Option Addr) (dl dc : Nat) (ds : List Int) (xa : Option Addr) (n xc : Nat) (xs : List Int) (a' : Option Addr) (len' cap' : Nat) (ys : List Int) (w : World) (p : Nat)
    (hd : Ints w da dl ds) (hdc : dl ≤ dc) (hx : Ints w xa n xs) (hy : Ints w a' len' ys) (hp : placeN ds ys = p) (hpn : p < n) :
    Calls Tryz.prog 42 #[.agg #[.slice da dl dc, .slice xa n xc], .slice a' len' cap'] w fun e w' => e = .returned (.int .i64 (xs[p]?.getD 0)) ∧ Below w.heap.size w w' := by
  have HD := hide hd
  have HY := hide hy
  have HX := hide hx
  have HP := hide hp
  have hm := hx.2.1
  obtain ⟨b, off, rfl, hc⟩ := hx.2.2.2.resolve_left (by omega)
  have hcp := hc p hpn
  have hbl : b < w.heap.size := lt_of_cell hcp
  have HC := hide hcp
  have HB1 := hide ((Below.refl w.heap.size w).alloc (Nat.le_refl _) (.cells #[.slice da dl dc, .slice (some ⟨b, off, none⟩) n xc] 28))
  have HAR := hide (ArrAt.new w (.slice da dl dc) (.slice (some ⟨b, off, none⟩) n xc))
  obtain ⟨⟨r0, r1⟩, _⟩ := HAR.out.cells
  clear hd hy hx hp hc hcp
  go_enter Tryz.func42, Tryz.ntmps42
  go_wp2_with (go_at_call 83; refine (rplace_any _ _ _ ds _ _ _ ys _ (HD.out.below HB1.out) (HY.out.below HB1.out) hdc).mono ?_; rintro e w1 ⟨rfl, hb⟩; rw [HP.out]; have HB2 := hide (Below.on HB1.out hb); have HAR2 := hide (HAR.out.below hb); clear r0 r1; obtain ⟨⟨r0, r1⟩, _⟩ := HAR2.out.cells; have g0 := (HB2.out.cell (p := ⟨b, off + p, none⟩) hbl).trans HC.out; clear hb)
  go_ret
  exact ⟨rfl, HB2.out⟩
end Go.Proofs.YtoagnhppjlcpkaaGreat.V

/-
  The law for drawn regions by facts (Facts.lean), where one operation, the s-th, does more than make memory (what R says): for regions in which a row that is owned grows in its place.
-/
namespace Go.Proofs.YtoagnhppjlcpkaaGreat.V
set_option maxRecDepth 20000
open Go Go.RowKit

section
variable {P : Program} {Q : Exit → Act → World → Prop} {ops : List Oper}

/-- What the i-th operation does to the world: the s-th as R says, all others only make memory. -/
def St (R : World → World → Prop) (s i : Nat) (w w' : World) : Prop := if i = s then R w w' else Below w.heap.size w w'
theorem St.to {R : World → World → Prop} {s i : Nat} {w w' : World} (h : St R s i w w') (hRB : ∀ w w', Below w.heap.size w w' → R w w') : R w w' := by
  unfold St at h
  split at h
  · exact h
  · exact hRB _ _ h
theorem St.of {R : World → World → Prop} {s i : Nat} {w w' : World} (h : Below w.heap.size w w') (hne : i ≠ s) : St R s i w w' := by rw [St, if_neg hne]; exact h
theorem St.at {R : World → World → Prop} {s : Nat} {w w' : World} (h : R w w') : St R s s w w' := by rw [St, if_pos rfl]; exact h

/-- What holds while some of the operations have come. -/
structure FInvR (R : World → World → Prop) (s : Nat) (ops : List Oper) (M : Nat) (F : Nat → Value → World → Prop) (mk : Nat → Bool) (a0 : Act) (w0 : World) (listed : Array Bool) (a : Act) (w : World) : Prop where
  defs : a.defers = a0.defers
  size : a.tmps.size = a0.tmps.size
  far : ∀ t, (∀ j, j < M → listed.getD j false = true → dstAt ops j ≠ t) → a.tmps.getD t undef = a0.tmps.getD t undef
  below : R w0 w
  pre : listed.getD s false = false → Below w0.heap.size w0 w
  fact : ∀ j, j < M → listed.getD j false = true → F j (a.tmps.getD (dstAt ops j) undef) w
  pair : ∀ i j, i < M → j < M → i ≠ j → listed.getD i false = true → listed.getD j false = true → mk i = true → mk j = true → ∀ b, blk (a.tmps.getD (dstAt ops i) undef) = some b → blk (a.tmps.getD (dstAt ops j) undef) ≠ some b

theorem any_factsR {R : World → World → Prop} (hRt : ∀ w w' w'', R w w' → R w' w'' → R w w'') (hRB : ∀ u v : World, Below u.heap.size u v → R u v) (s : Nat) {a0 : Act} {w0 : World} (M n : Nat) (F : Nat → Value → World → Prop) (mk : Nat → Bool) (ok : FOk ops M) (hwait : waitsAll ops M n none = true)
    (hts : ∀ j, j < M → dstAt ops j < a0.tmps.size)
    (hQ : ∀ ch (a a' : Act) w', a.defers = a'.defers → Q (.panic ch) a w' → Q (.panic ch) a' w')
    (hF : ∀ i j v w w', j < M → i ≠ j → F j v w → St R s i w w' → F j v w')
    (hlt : ∀ i v w b, i < M → mk i = true → F i v w → blk v = some b → b < w.heap.size)
    (hstep : ∀ i o, i < M → ops[i]? = some o → ∀ (u : Nat → Value) (w : World), R w0 w → (i = s → Below w0.heap.size w0 w) → (∀ j, j < i → hasEdge o j = true → F j (u j) w) →
      o.wp P (putAll ops u i a0) w (fun a' w' => a'.defers = a0.defers ∧ F i (a'.tmps.getD (dstAt ops i) undef) w' ∧ St R s i w w' ∧ (mk i = true → ∀ b, blk (a'.tmps.getD (dstAt ops i) undef) = some b → w.heap.size ≤ b)) Q)
    (hend : ∀ (u : Nat → Value) (w : World), R w0 w → (∀ i, i < M → F i (u i) w) → (∀ i j, i < M → j < M → i ≠ j → mk i = true → mk j = true → ∀ b, blk (u i) = some b → blk (u j) ≠ some b) → UptoW P Q ops M (putAll ops u M a0) w) :
    ∀ (fuel : Nat) (listed : Array Bool) (a : Act) (w : World), listed.size = ops.length → (∀ j, M ≤ j → j < ops.length → listed.getD j false = false) → Shutt .any ops.toArray listed → left listed M + (ops.length - M) ≤ fuel → FInvR R s ops M F mk a0 w0 listed a w → wpAny P .any ops.toArray Q fuel listed a w := by
  have hlen := ok.len
  intro fuel
  induction fuel with
  | zero =>
    intro listed a w hsz hno hsh hle hi
    have hz : left listed M = 0 := by omega
    have hall := left_zero listed M hz
    have hMl : M = ops.length := by omega
    have hae : a = putAll ops (fun j => a.tmps.getD (dstAt ops j) undef) M a0 := fact_end ok hts hi.defs hi.size (fun t ht => hi.far t (fun j hj _ => ht j hj))
    rw [hae]
    exact hend _ w hi.below (fun i hiM => hi.fact i hiM (hall i hiM)) (fun i j h1 h2 h3 h4 h5 => hi.pair i j h1 h2 h3 (hall i h1) (hall j h2) h4 h5) 0 listed hsz (fun j hj => ⟨fun _ => by omega, fun h => hall j h⟩) (by omega)
  | succ fuel ih =>
    intro listed a w hsz hno hsh hle hi
    have hgt : ∀ j, j < ops.length → (listed.getD j true = false ↔ listed.getD j false = false) := fun j hj => by simp [hsz, hj]
    by_cases hz : left listed M = 0
    · have hall := left_zero listed M hz
      have hae : a = putAll ops (fun j => a.tmps.getD (dstAt ops j) undef) M a0 := fact_end ok hts hi.defs hi.size (fun t ht => hi.far t (fun j hj _ => ht j hj))
      rw [hae]
      refine hend _ w hi.below (fun i hiM => hi.fact i hiM (hall i hiM)) (fun i j h1 h2 h3 h4 h5 => hi.pair i j h1 h2 h3 (hall i h1) (hall j h2) h4 h5) (fuel + 1) listed hsz (fun j hj => ⟨fun h => ?_, fun h => hall j h⟩) (by omega)
      by_cases hM : j < M
      · exact hM
      · rw [hno j (by omega) hj] at h; cases h
    · -- the least one that has not come
      have hmin : ∀ k, k ≤ M → (∀ j, j < k → listed.getD j false = true) ∨ ∃ j, j < k ∧ listed.getD j false = false ∧ ∀ i, i < j → listed.getD i false = true := by
        intro k
        induction k with
        | zero => intro _; exact .inl (fun j hj => by omega)
        | succ k ihk =>
          intro hk
          rcases ihk (by omega) with h | ⟨j, hj, h⟩
          · by_cases hb : listed.getD k false = true
            · exact .inl (fun j hj => by by_cases e : j = k; (rw [e]; exact hb); exact h j (by omega))
            · exact .inr ⟨k, by omega, by simpa using hb, h⟩
          · exact .inr ⟨j, by omega, h⟩
      have hex : ∃ j, j < M ∧ listed.getD j false = false ∧ ∀ i, i < j → listed.getD i false = true := by
        rcases hmin M (Nat.le_refl _) with h | h
        · exfalso
          apply hz
          clear hz hmin hle hi
          have : ∀ k, (∀ j, j < k → listed.getD j false = true) → left listed k = 0 := by
            intro k
            induction k with
            | zero => intro _; rfl
            | succ k ihk => intro h; rw [left, ihk (fun j hj => h j (by omega)), h k (by omega)]; simp
          exact this M h
        · exact h
      obtain ⟨j0, hj0, hf0, hb0⟩ := hex
      refine ⟨fun hre => ?_, fun i hir => ?_⟩
      · exfalso
        have : j0 ∈ Region.ready .any ops.toArray listed := by
          rw [mem_ready]
          refine ⟨(hgt j0 (by omega)).2 hf0, ops[j0]'(by omega), by simp, fun e he hbd => hb0 _ (back_of ok.back j0 _ (List.getElem?_eq_getElem (by omega)) e he hbd)⟩
        rw [hre] at this
        cases this
      · obtain ⟨hun, o, ho, hr⟩ := mem_ready.1 hir
        have ho' : ops[i]? = some o := by simpa using ho
        have hil := (List.getElem?_eq_some_iff.1 ho').1
        have hun' := (hgt i hil).1 hun
        have hiM : i < M := by
          by_cases h : i < M
          · exact h
          · exfalso
            have := waits_listed hsh n i o ho hr (waits_all hwait j0 i hj0 (by simp) hil (by omega))
            rw [hf0] at this; cases this
        obtain ⟨hg, hp⟩ := ok.bare i o hiM ho'
        have hns : ∀ cs b, o.op ≠ .select cs b := fun cs b e => by rw [e] at hp; simp [plainOp] at hp
        have hod := ok.dsts i o hiM ho'
        unfold wpOp
        simp only [ho]
        rw [if_pos (by simp [Region.wanted, hg])]
        refine .inl ?_
        have hev : execOp a.eval o = execOp (putAll ops (fun j => a.tmps.getD (dstAt ops j) undef) i a0).eval o := by
          refine execOp_congr o hns fun x hx => ?_
          cases x <;> try rfl
          rename_i t
          show a.tmps.getD t undef = (putAll ops (fun j => a.tmps.getD (dstAt ops j) undef) i a0).tmps.getD t undef
          by_cases hex : ∃ j, j < M ∧ dstAt ops j = t
          · obtain ⟨j, hj, rfl⟩ := hex
            obtain ⟨hji, _⟩ := ok.data j i o hj hiM ho' hx
            rw [putAll_at ok _ a0 hts j i hji (by omega)]
          · rw [putAll_far _ _ _ _ (fun j hj e => hex ⟨j, by omega, e⟩), hi.far t (fun j hj _ e => hex ⟨j, hj, e⟩)]
        have hs := hstep i o hiM ho' (fun j => a.tmps.getD (dstAt ops j) undef) w hi.below (fun e => hi.pre (by rw [← e]; exact hun')) (fun j hji hed => by
          obtain ⟨e, he, hbd, hon⟩ := edge_of hed
          have := hr e he hbd
          rw [hon] at this
          exact hi.fact j (by omega) this)
        refine Oper.wp_mono ?_ (wp_act (K := fun v w' => F i v w' ∧ St R s i w w' ∧ (mk i = true → ∀ b, blk v = some b → w.heap.size ≤ b)) hod (by rw [putAll_size]; exact hts i hiM) (putAll_defs _ _ _) hev (fun ch w' h => hQ ch _ a w' (by rw [putAll_defs]; exact hi.defs.symm) h) hs)
        rintro a' w' ⟨v, rfl, hFi, hbe, hmk⟩
        have hget : (a.put (some (dstAt ops i)) v).tmps.getD (dstAt ops i) undef = v := by
          have := hts i hiM
          simp [Act.put, hi.size, this]
        have hli : ∀ j, i ≠ j → (listed.setIfInBounds i true).getD j false = listed.getD j false := fun j hj => getD_set_ne false hj
        have hii : (listed.setIfInBounds i true).getD i false = true := by simp [hsz, hil]
        have hgj : ∀ j, j < M → i ≠ j → (a.put (some (dstAt ops i)) v).tmps.getD (dstAt ops j) undef = a.tmps.getD (dstAt ops j) undef := fun j hj hne => put_getD_ne _ _ _ _ (ok.apart i j hiM hj hne)
        refine ih _ _ _ (by simp [hsz]) (fun j h1 h2 => ?_) (hsh.more hir) (by have := left_set listed i (by omega) hun' M hiM; omega) ⟨?_, ?_, ?_, ?_, ?_, ?_, ?_⟩
        · rw [hli j (by omega)]; exact hno j h1 h2
        · rw [put_defs]; exact hi.defs
        · rw [put_size]; exact hi.size
        · intro t ht
          rw [put_getD_ne _ _ _ _ (ht i hiM hii)]
          refine hi.far t (fun j hj hl => ht j hj ?_)
          by_cases e : i = j
          · subst e; exact hii
          · rw [hli j e]; exact hl
        · exact hRt _ _ _ hi.below (hbe.to hRB)
        · intro hl
          by_cases e : i = s
          · subst e; rw [hii] at hl; cases hl
          · rw [hli s e] at hl
            have h1 := hbe
            unfold St at h1
            rw [if_neg e] at h1
            exact Below.on (hi.pre hl) h1
        · intro j hj hl
          by_cases e : i = j
          · subst e; rw [hget]; exact hFi
          · rw [hgj j hj e]
            rw [hli j e] at hl
            exact hF i j _ _ _ hj e (hi.fact j hj hl) hbe
        · intro p q hp hq hne hlp hlq hmp hmq b hb
          by_cases e1 : i = p
          · subst e1
            rw [hget] at hb
            rw [hgj q hq hne]
            rw [hli q hne] at hlq
            intro hb2
            have h1 := hmk hmp b hb
            have h2 := hlt q _ _ b hq hmq (hi.fact q hq hlq) hb2
            omega
          · rw [hgj p hp e1] at hb
            rw [hli p e1] at hlp
            by_cases e2 : i = q
            · subst e2
              rw [hget]
              intro hb2
              have h1 := hmk hmq b hb2
              have h2 := hlt p _ _ b hp hmp (hi.fact p hp hlp) hb
              omega
            · rw [hgj q hq e2]
              rw [hli q e2] at hlq
              exact hi.pair p q hp hq hne hlp hlq hmp hmq b hb

/-- **The region's law, over any relation that goes on.** -/
theorem region_factsR {R : World → World → Prop} (hRt : ∀ w w' w'', R w w' → R w' w'' → R w w'') (hRB : ∀ w w', Below w.heap.size w w' → R w w') (s : Nat) {id : Nat} {a0 : Act} {w0 : World} (M n : Nat) (F : Nat → Value → World → Prop) (mk : Nat → Bool) (hm : P.follows .mixedOrders = true) (hok : baseOk ops M = true) (hwait : waitsAll ops M n none = true)
    (hts : ((List.range M).all fun j => decide (dstAt ops j < a0.tmps.size)) = true)
    (hQ : ∀ ch (a a' : Act) w', a.defers = a'.defers → Q (.panic ch) a w' → Q (.panic ch) a' w')
    (hF : ∀ i j v w w', j < M → i ≠ j → F j v w → St R s i w w' → F j v w')
    (hlt : ∀ i v w b, i < M → mk i = true → F i v w → blk v = some b → b < w.heap.size)
    (hstep : ∀ i o, i < M → ops[i]? = some o → ∀ (u : Nat → Value) (w : World), R w0 w → (i = s → Below w0.heap.size w0 w) → (∀ j, j < i → hasEdge o j = true → F j (u j) w) →
      o.wp P (putAll ops u i a0) w (fun a' w' => a'.defers = a0.defers ∧ F i (a'.tmps.getD (dstAt ops i) undef) w' ∧ St R s i w w' ∧ (mk i = true → ∀ b, blk (a'.tmps.getD (dstAt ops i) undef) = some b → w.heap.size ≤ b)) Q)
    (hend : ∀ (u : Nat → Value) (w : World), R w0 w → (∀ i, i < M → F i (u i) w) → (∀ i j, i < M → j < M → i ≠ j → mk i = true → mk j = true → ∀ b, blk (u i) = some b → blk (u j) ≠ some b) → UptoW P Q ops M (putAll ops u M a0) w) :
    (Code.region id ops.toArray true).wp P Q a0 w0 := by
  have ok := fok_of hok
  refine wp_region_any hm ?_
  refine any_factsR hRt hRB s (w0 := w0) M n F mk ok hwait (fun j hj => by rw [List.all_eq_true] at hts; simpa using hts j (by simpa using hj)) hQ hF hlt hstep hend _ _ _ _ (by simp) (fun j _ _ => by rw [rep_getD]) (by simpa using Shutt.none) ?_ ⟨rfl, rfl, fun _ _ => rfl, hRB _ _ (Below.refl _ _).drew, fun _ => (Below.refl _ _).drew, fun j _ h => ?_, fun i j _ _ _ h => ?_⟩
  · have := left_le (Array.replicate ops.toArray.size false) M
    have hl2 := ok.len
    have hl3 : ops.toArray.size = ops.length := by simp
    omega
  · rw [rep_getD] at h; cases h
  · rw [rep_getD] at h; cases h

def Fact.GoodR (R : World → World → Prop) (special : Bool) (f : Fact) : Prop := (∀ v w w', f.p v w → Below w.heap.size w w' → f.p v w') ∧ (special = false → ∀ v w w', f.p v w → R w w' → f.p v w') ∧ (f.new = true → ∀ v w b, f.p v w → blk v = some b → b < w.heap.size)
def GoodsR (R : World → World → Prop) (s : Nat) : Nat → List Fact → Prop
  | _, [] => True
  | i, f :: r => f.GoodR R (i == s) ∧ GoodsR R s (i + 1) r
theorem goods_atR {R : World → World → Prop} {s : Nat} : ∀ (fs : List Fact) (k i : Nat), GoodsR R s k fs → (factAt fs i).GoodR R (k + i == s)
  | [], k, i, _ => by simp [factAt, Fact.GoodR]
  | f :: r, k, 0, h => by simpa [factAt] using h.1
  | f :: r, k, i + 1, h => by
    have := goods_atR r (k + 1) i h.2
    rw [show k + 1 + i = k + (i + 1) by omega] at this
    simpa [factAt] using this
/-- Each operation makes its fact of those that it waits for. -/
def MadeR (R : World → World → Prop) (s : Nat) (P : Program) (Q : Exit → Act → World → Prop) (fs : List Fact) (w0 : World) : Nat → List Oper → ((Nat → Value) → Act) → Prop
  | _, [], _ => True
  | i, o :: r, A => (∀ (u : Nat → Value) (w : World), R w0 w → (i = s → Below w0.heap.size w0 w) → (∀ j, j < i → hasEdge o j = true → (factAt fs j).p (u j) w) →
      o.wp P (A u) w (fun a' w' => ∃ v, a' = (A u).put o.dst v ∧ (factAt fs i).p v w' ∧ St R s i w w' ∧ ((factAt fs i).new = true → ∀ b, blk v = some b → w.heap.size ≤ b)) Q) ∧
    MadeR R s P Q fs w0 (i + 1) r (fun u => (A u).put o.dst (u i))
theorem made_atR {R : World → World → Prop} {s M : Nat} (ok : FOk ops M) {fs : List Fact} {w0 : World} {a0 : Act} (hts : ∀ j, j < M → dstAt ops j < a0.tmps.size) : ∀ (l : List Oper) (i : Nat) (A : (Nat → Value) → Act), i + l.length ≤ M → (∀ j, j < l.length → l[j]? = ops[i + j]?) → (∀ u, A u = putAll ops u i a0) → MadeR R s P Q fs w0 i l A →
    ∀ k o, i ≤ k → k < i + l.length → ops[k]? = some o → ∀ (u : Nat → Value) (w : World), R w0 w → (k = s → Below w0.heap.size w0 w) → (∀ j, j < k → hasEdge o j = true → (factAt fs j).p (u j) w) →
      o.wp P (putAll ops u k a0) w (fun a' w' => a'.defers = a0.defers ∧ (factAt fs k).p (a'.tmps.getD (dstAt ops k) undef) w' ∧ St R s k w w' ∧ ((factAt fs k).new = true → ∀ b, blk (a'.tmps.getD (dstAt ops k) undef) = some b → w.heap.size ≤ b)) Q
  | [], i, A, _, _, _, _, k, o, h1, h2, _ => by simp at h2; omega
  | o' :: r, i, A, hi, hl, hA, hM, k, o, h1, h2, ho => by
    have h0 := hl 0 (by simp)
    simp only [List.getElem?_cons_zero, Nat.add_zero] at h0
    simp only [List.length_cons] at hi h2
    by_cases e : k = i
    · subst e
      rw [ho] at h0
      obtain rfl := Option.some.inj h0
      intro u w hb hs hd
      have := hM.1 u w hb hs hd
      rw [hA u] at this
      refine Oper.wp_mono ?_ this
      rintro a' w' ⟨v, rfl, q1, q2, q3⟩
      have hg : ((putAll ops u k a0).put o'.dst v).tmps.getD (dstAt ops k) undef = v := by
        rw [ok.dsts k o' (by omega) ho]
        have := hts k (by omega)
        simp [Act.put, putAll_size, this]
      rw [hg, put_defs, putAll_defs]
      exact ⟨rfl, q1, q2, q3⟩
    · refine made_atR ok hts r (i + 1) _ (by omega) (fun j hj => ?_) (fun u => ?_) hM.2 k o (by omega) (by omega) ho
      · have := hl (j + 1) (by simp; omega)
        rw [List.getElem?_cons_succ] at this
        rw [this]; congr 1; omega
      · rw [hA u, putAll, ok.dsts i o' (by omega) h0.symm]

/-- **The region's law, by a list of facts, over any relation that goes on.** -/
theorem region_madeR (R : World → World → Prop) (hRt : ∀ w w' w'', R w w' → R w' w'' → R w w'') (hRB : ∀ w w', Below w.heap.size w w' → R w w') (s : Nat) {id : Nat} {a0 : Act} {w0 : World} (M n : Nat) (fs : List Fact) (hm : P.follows .mixedOrders = true) (hok : factsOk ops M n = true) (hts : ((List.range M).all fun j => decide (dstAt ops j < a0.tmps.size)) = true)
    (hQ : ∀ ch (a a' : Act) w', a.defers = a'.defers → Q (.panic ch) a w' → Q (.panic ch) a' w') (hgood : GoodsR R s 0 fs)
    (hstep : MadeR R s P Q fs w0 0 (ops.take M) (fun _ => a0))
    (hend : ∀ (u : Nat → Value) (w : World), R w0 w → (∀ i, i < M → (factAt fs i).p (u i) w) → (∀ i j, i < M → j < M → i ≠ j → (factAt fs i).new = true → (factAt fs j).new = true → ∀ b, blk (u i) = some b → blk (u j) ≠ some b) → UptoW P Q ops M (putOps u 0 (ops.take M) a0) w) :
    (Code.region id ops.toArray true).wp P Q a0 w0 := by
  unfold factsOk at hok
  rw [Bool.and_eq_true] at hok
  have ok := fok_of hok.1
  have hlen := ok.len
  have hts' : ∀ j, j < M → dstAt ops j < a0.tmps.size := fun j hj => by rw [List.all_eq_true] at hts; simpa using hts j (by simpa using hj)
  have hl : (ops.take M).length = M := by simp; omega
  have htk : ∀ j, j < (ops.take M).length → (ops.take M)[j]? = ops[0 + j]? := fun j hj => by rw [hl] at hj; rw [List.getElem?_take_of_lt hj, Nat.zero_add]
  refine region_factsR hRt hRB s M n (fun i => (factAt fs i).p) (fun i => (factAt fs i).new) hm hok.1 hok.2 hts hQ (fun i j v w w' _ hne h hb => ?st) (fun i v w b _ hk h hb => (goods_atR fs 0 i hgood).2.2 hk v w b h hb) (fun i o hi ho u w hb hs hd => ?_) (fun u w hb hf hp => ?_)
  case st =>
    have hg := goods_atR fs 0 j hgood
    unfold St at hb
    by_cases e : i = s
    · rw [if_pos e] at hb
      exact hg.2.1 (by simp; omega) v w w' h hb
    · rw [if_neg e] at hb
      exact hg.1 v w w' h hb
  · exact made_atR ok hts' (ops.take M) 0 (fun _ => a0) (by omega) htk (fun _ => rfl) hstep i o (by omega) (by omega) ho u w hb hs hd
  · have := putAll_ops ok u a0 (ops.take M) 0 (by omega) htk
    rw [hl, Nat.zero_add] at this
    rw [← this]
    exact hend u w hb hf hp
end
end Go.Proofs.YtoagnhppjlcpkaaGreat.V

/-
  Contract: adjointref2.Do, where it tells an error; and where it does not, over what entry tells.
-/
namespace Go.Proofs.YtoagnhppjlcpkaaGreat.V
set_option maxRecDepth 20000
open Go.RowKit

/-- What an own row of lists is. -/
theorem own_row {w : World} {B : Nat} {t : TypeId} {n : Nat} {v : Value} {vs : List Value} (h : w.ownsRow B t 1 v n vs) : ∃ A c, v = .slice A n c ∧ n ≤ c ∧ (n = 0 ∨ ∃ g, A = some ⟨g, 0, none⟩ ∧ B ≤ g ∧ ∀ i, i < n → w.cell? ⟨g, i, none⟩ = vs[i]?) := by
  have h' := h
  rcases h.2 with ⟨rfl, h2⟩ | ⟨g, cap, cur, rfl, h3, h5, h4, h6⟩
  · subst h2
    exact ⟨none, 0, rfl, Nat.le_refl _, .inl rfl⟩
  · exact ⟨_, _, rfl, h4, .inr ⟨g, rfl, h3, fun i hi => h'.cellAt i (by omega)⟩⟩
theorem OpAt.grown {w w' : World} {b : Nat} {k : Int} {vd va vl vh vs : Value} {x : Int} {row : Option Nat} (h : OpAt w b k vd va vl vh vs x) (hg : w.grownBy w' row) (hne : some b ≠ row) : OpAt w' b k vd va vl vh vs x := (hg.block b h.lt hne).trans h
theorem ArrAt.grown {w w' : World} {b : Nat} {c0 c1 : Value} {row : Option Nat} (h : ArrAt w b c0 c1) (hg : w.grownBy w' row) (hne : some b ≠ row) : ArrAt w' b c0 c1 := (hg.block b h.lt hne).trans h
theorem own_ne {w : World} {B b : Nat} {t : TypeId} {n : Nat} {v : Value} {vs : List Value} (h : w.ownsRow B t 1 v n vs) (hb : b < B) : some b ≠ v.ownBlock := fun e => by
  have := (h.lt b e.symm).1
  omega
def dimRow (v : Nat → ArrV) (j : Nat) : List Value := (List.range j).map fun t => (v t).d
theorem dimRow_succ (v : Nat → ArrV) (j : Nat) : dimRow v (j + 1) = dimRow v j ++ [(v j).d] := by simp [dimRow, List.range_succ]

end Go.Proofs.YtoagnhppjlcpkaaGreat.V

/-
  Contracts: adjointref1.Next and All, with what their lists' capacities are (RNext, RAll, RReads say nothing of them).
-/
namespace Go.Proofs.YtoagnhppjlcpkaaGreat.V
set_option maxRecDepth 20000
open Go.RowKit

/-- A slice value's begin, and n: a list of n lists of len numbers each. -/
def ListsC (w : World) (B : Nat) (A : Option Addr) (n len : Nat) (f : Nat → List Int) : Prop :=
  n = 0 ∨ ∃ b, A = some ⟨b, 0, none⟩ ∧ B ≤ b ∧ ∀ i, i < n → ∃ g c, B ≤ g ∧ w.cell? ⟨b, i, none⟩ = some (.slice (some ⟨g, 0, none⟩) len c) ∧ Ints w (some ⟨g, 0, none⟩) len (f i) ∧ len ≤ c
theorem ListsC.below {w w' : World} {B : Nat} {A : Option Addr} {n len : Nat} {f : Nat → List Int} (h : ListsC w B A n len f) (hb : Below w.heap.size w w') : ListsC w' B A n len f := by
  rcases h with h | ⟨b, ha, hB, hc⟩
  · exact .inl h
  · refine .inr ⟨b, ha, hB, fun i hi => ?_⟩
    obtain ⟨g, c, h0, h1, h2, h3⟩ := hc i hi
    exact ⟨g, c, h0, (hb.cell (p := ⟨b, i, none⟩) (lt_of_cell h1)).trans h1, h2.below hb, h3⟩

/-- The values of a row of lists. -/
def ValsC (w : World) (B n len : Nat) (f : Nat → List Int) (vs : List Value) : Prop :=
  vs.length = n ∧ ∀ i, i < n → ∃ g c, B ≤ g ∧ vs[i]? = some (.slice (some ⟨g, 0, none⟩) len c) ∧ Ints w (some ⟨g, 0, none⟩) len (f i) ∧ len ≤ c


set_option maxRecDepth 100000 in
set_option maxHeartbeats 4000000 in
theorem rnext_cap (a : Option Addr) (len cap : Nat) (xs : List Int) (gb cap' : Nat) (ys : List Int) (w : World) (h : Ints w a len xs) (h' : Ints w (some ⟨gb, 0, none⟩) len ys) (h6 : len ≤ 6) (hy : ∀ j, j < len → 0 ≤ ys[j]?.getD 0 ∧ ys[j]?.getD 0 ≤ 4096) :
    Calls Tryz.prog 39 #[.slice a len cap, .slice (some ⟨gb, 0, none⟩) len cap'] w fun e w' => (∃ g c : Nat, e = .returned (.tuple #[.slice (some ⟨g, 0, none⟩) len c, .bool (nextL xs ys).2]) ∧ Ints w' (some ⟨g, 0, none⟩) len (nextL xs ys).1 ∧ w.heap.size ≤ g ∧ g < w'.heap.size ∧ len ≤ c) ∧ Below w.heap.size w w' := by
  have H := hide h
  have H' := hide h'
  have HL := hide h.1
  have HL' := hide h'.1
  have HY := hide hy
  clear h h' hy
  obtain ⟨i0, hi, hz0, hz1, hz2⟩ := info_parts info_int
  have HI := hide hi
  have HZ0 := hide hz0
  have HZ1 := hide hz1
  have HZ2 := hide hz2
  clear hi hz0 hz1 hz2
  have hb1 : Below w.heap.size w (w.alloc (.cells #[] 3)) := (Below.refl _ _).alloc (Nat.le_refl _) _
  have HB1 := hide hb1
  clear hb1
  go_enter Tryz.func39, Tryz.ntmps39
  go_wp2_with (at_builtin; refine wpList_append_own _ rfl _ _ 22 rfl w.heap.size 3 i0 (.int .i64 0) 1 8 Tryz.underlying22 HI.out HZ0.out HZ1.out HZ2.out rfl (by decide) _ _ _ rfl (World.ownsRow_made w #[] 0 (Nat.le_refl _) (Nat.zero_le _) rfl) ⟨gb, 0, none⟩ len cap' (ys.map (Value.int .i64)) rfl ?l1 ?l2 ?l3 ?l4 ?l5 ?l6 ?_)
  case l1 => simp [HL'.out]
  case l2 =>
    intro j u hj
    have hjl : j < len := by have := (List.getElem?_eq_some_iff.1 hj).1; simpa [HL'.out] using this
    obtain ⟨b, off, e, hb, hc⟩ := H'.out.at (by omega)
    cases e
    have h3 : u = .int .i64 (ys[j]?.getD 0) := by
      have : j < ys.length := by rw [HL'.out]; exact hjl
      simp [this] at hj ⊢
      exact hj.symm
    rw [h3, Go.WideShapes.add_plain]
    exact (HB1.out.cell (p := ⟨gb, 0 + j, none⟩) hb).trans (hc j hjl)
  case l3 => intro u hu; simp at hu; obtain ⟨x, _, rfl⟩ := hu; rfl
  case l4 => unfold maxLen; omega
  case l5 => omega
  case l6 => simp
  intro v' w1 hown hgrow hnn
  obtain ⟨g, c, rfl⟩ : ∃ g c, v' = .slice (some ⟨g, 0, none⟩) len c := by
    rcases hown.2 with ⟨e1, e2⟩ | ⟨g, cc, cur, e, _⟩
    · exact (hnn e1).elim
    · exact ⟨g, cc, e⟩
  obtain ⟨f, hrow, hf, hnc, hBg⟩ := row_of_own hown HL'.out
  have hB1 : Below w.heap.size w w1 := by
    refine HB1.out.grown hgrow (by simp) (fun j e => ?_)
    simp [Value.ownBlock] at e
    omega
  have HB := hide hB1
  have HR := hide hrow
  have HF := hide hf
  clear hown hgrow hnn hB1 hrow hf
  go_wp2_with fail
  go_loopw [7] (fun i wr => ∃ (k : Nat) (m : Int) (f : Nat → Value), k ≤ len ∧ m + 1 = k ∧ i = .int .i64 m ∧ wr.rowIs g 3 c f ∧ (∀ j, j < len → f j = .int .i64 (nextAt ys k j)) ∧ (nextL (xs.drop k) (ys.drop k)).2 = false ∧ Below w.heap.size w wr) (fun i _ => (intOf i + 1).toNat)
  case atStart =>
    refine ⟨len, len - 1, f, Nat.le_refl _, by omega, rfl, HR.out, fun j hj => by rw [HF.out j hj, nextAt, if_pos hj], ?_, HB.out⟩
    rw [List.drop_eq_nil_of_le (by rw [HL.out]; omega), List.drop_eq_nil_of_le (by rw [HL'.out]; omega)]; rfl
  case round =>
    clear HR HF HB
    obtain ⟨k, m, f, hk, hm, rfl, hrow, hf, hst, hB⟩ := hrel
    have HB := hide hB
    have HR := hide hrow
    have HF := hide hf
    have HST := hide hst
    clear hB hrow hf hst
    by_cases hlt : 0 < k
    · obtain ⟨k', rfl⟩ : ∃ k', k = k' + 1 := ⟨k - 1, by omega⟩
      obtain rfl : m = (k' : Int) := by omega
      have hk' : k' < len := by omega
      obtain ⟨b, off, rfl, hb, hcc⟩ := H.out.at (by omega)
      obtain ⟨Y, hY⟩ : ∃ Y, Y = ys[k']?.getD 0 := ⟨_, rfl⟩
      obtain ⟨X, hX⟩ : ∃ X, X = xs[k']?.getD 0 := ⟨_, rfl⟩
      have hyb := HY.out k' hk'
      rw [← hY] at hyb
      have cr : wr.cell? ⟨g, k', none⟩ = some (.int .i64 Y) := by
        have := HR.out.cell (i := k') (by omega)
        rw [HF.out k' hk', nextAt, if_pos (by omega), ← hY] at this
        exact this
      have fr := HR.out.frozen k'
      have cx : wr.cell? ⟨b, off + k', none⟩ = some (.int .i64 X) := by rw [hX]; exact (HB.out.cell (p := ⟨b, off + k', none⟩) hb).trans (hcc k' hk')
      have hlg := HR.out.lt
      have hbg : b ≠ g := by omega
      have cr2 : (wr.setCell ⟨g, k', none⟩ (.int .i64 (Y + 1))).cell? ⟨g, k', none⟩ = some (.int .i64 (Y + 1)) := by
        have := (HR.out.set k' (.int .i64 (Y + 1))).cell (i := k') (by omega)
        simpa using this
      have cx2 : (wr.setCell ⟨g, k', none⟩ (.int .i64 (Y + 1))).cell? ⟨b, off + k', none⟩ = some (.int .i64 X) :=
        (World.cell?_of_block (w := wr) (Below.heap_setCell _ ⟨g, k', none⟩ _ b hbg)).trans cx
      have HX := hide hX
      have HY' := hide hY
      have HK : Hid (k' < xs.length) := by rw [Hid, HL.out]; exact hk'
      have i1 : (0 : Int) ≤ (k' : Int) := Int.natCast_nonneg _
      have i2 : (k' : Int) < (len : Int) := by omega
      have w1' : IntKind.i64.wrap (Y + 1) = Y + 1 := wrap_in _ (by omega) (by omega)
      clear hcc hX hY hm
      by_cases hc : Y + 1 < X
      · go_wp2_with fail
        go_region
        go_wp2
        go_ret2
        have hend := nextL_end xs ys (by rw [HL.out, HL'.out]) k' HK.out HST.out (by rw [← HX.out, ← HY'.out]; exact hc)
        rw [hend.1]
        refine ⟨⟨g, c, rfl, ⟨by rw [hend.2.1, HL.out], by omega, fun z hz => ?_, .inr ⟨g, 0, rfl, fun j hj => ?_⟩⟩, hBg, by simpa using hlg, hnc⟩, (HB.out.setCell (p := ⟨g, k', none⟩) hBg _).drew⟩
        · obtain ⟨i, hi, rfl⟩ := List.getElem_of_mem hz
          have hil : i < xs.length := by rw [← hend.2.1]; exact hi
          have := hend.2.2 i hil
          rw [List.getElem?_eq_getElem hi, Option.getD_some] at this
          rw [this]
          split
          · rw [← HY'.out]; omega
          · unfold nextAt
            split
            · have := HY.out i (by rw [← HL.out]; exact hil); omega
            · omega
        · have := (HR.out.set k' (.int .i64 (Y + 1))).cell (i := j) (by omega)
          rw [Nat.zero_add]
          show (wr.setCell ⟨g, k', none⟩ (.int .i64 (Y + 1))).cell? ⟨g, j, none⟩ = _
          rw [this, hend.2.2 j (by rw [HL.out]; exact hj), HF.out j hj, HY'.out]
          split <;> rfl
      · go_wp2_with fail
        go_region
        go_wp2
        go_roundw
        case rel =>
          refine ⟨k', (k' : Int) - 1, fun j => if j = k' then .int .i64 0 else if j = k' then .int .i64 (Y + 1) else f j, by omega, by omega, by go_num, ?_, fun j hj => ?_, nextL_stage xs ys (by rw [HL.out, HL'.out]) k' HK.out HST.out (by rw [← HX.out, ← HY'.out]; omega), ?_⟩
          · exact ((HR.out.set k' (.int .i64 (Y + 1))).drew.set k' (.int .i64 0))
          · show (if j = k' then Value.int .i64 0 else if j = k' then .int .i64 (Y + 1) else f j) = _
            by_cases e : j = k'
            · rw [if_pos e, nextAt, if_neg (by omega)]
            · rw [if_neg e, if_neg e, HF.out j hj, nextAt, nextAt]
              by_cases c2 : j < k'
              · rw [if_pos c2, if_pos (by omega)]
              · rw [if_neg c2, if_neg (by omega)]
          · exact ((HB.out.setCell (p := ⟨g, k', none⟩) hBg _).drew).setCell (p := ⟨g, k', none⟩) hBg _
        case measure => simp [intOf]
    · obtain rfl : k = 0 := by omega
      obtain rfl : m = -1 := by omega
      go_wp2
      go_ret2
      have hst := HST.out
      simp only [List.drop_zero] at hst
      have hnf := nextL_false xs ys (by rw [HL.out, HL'.out]) hst
      rw [hst, hnf]
      refine ⟨⟨g, c, rfl, ⟨by simp [HL.out], by omega, fun z hz => ?_, .inr ⟨g, 0, rfl, fun j hj => ?_⟩⟩, hBg, HR.out.lt, hnc⟩, HB.out⟩
      · have := List.eq_of_mem_replicate hz; omega
      · have := HR.out.cell (i := j) (by omega)
        rw [Nat.zero_add, this, HF.out j hj, nextAt, if_neg (by omega)]
        have hj' : j < xs.length := by rw [HL.out]; exact hj
        simp [hj']

set_option maxRecDepth 100000 in
set_option maxHeartbeats 4000000 in
theorem rall_okC (a : Option Addr) (len cap : Nat) (xs : List Int) (w : World) (h : Ints w a len xs) (hE : sizeE xs = 0) (hpos : ∀ x ∈ xs, 1 ≤ x) :
    Calls Tryz.prog 23 #[.slice a len cap] w fun e w' => (∃ (A : Option Addr) (c : Nat), e = .returned (.slice A (prod xs).toNat c) ∧ ListsC w' w.heap.size A (prod xs).toNat len (fun i => dig xs i)) ∧ Below w.heap.size w w' := by
  obtain ⟨z1, z2, z3, z4⟩ := sizeE_ok hE
  obtain ⟨hp, hn⟩ := z3 hpos
  have hp1 := prod_pos xs hpos
  have hl := h.1
  have hlen : len ≤ 6 := by omega
  obtain ⟨N, hN⟩ : ∃ N : Nat, prod xs = (N : Int) := ⟨(prod xs).toNat, by omega⟩
  have hN1 : 1 ≤ N := by omega
  have hN2 : N ≤ 65536 := by omega
  have eN : (prod xs).toNat = N := by omega
  rw [eN]
  have H := hide h
  have HE := hide hE
  have HL := hide hl
  have HNP := hide hN
  have HPOS := hide hpos
  have HZ2 := hide z2
  have hne : ((N : Int) == 0) = false := by simp; omega
  have HSN : Hid (sizeN xs = (N : Int)) := by rw [Hid, hn, hN]
  clear h hE hl hp hpos z1 z2 z3 z4 hn hN hp1 eN
  obtain ⟨i0, hi, hz0, hz1, hz2⟩ := info_parts info_ints
  have HI := hide hi
  have HZ0 := hide hz0
  have HZ1 := hide hz1
  have HZ2' := hide hz2
  clear hi hz0 hz1 hz2
  have hmk := run_make_row' (P := Tryz.prog) 22 3 (.int .i64 0) 8 Tryz.underlying22 info_int rfl .i64 .i64 len (by omega) (by omega)
  go_enter Tryz.func23, Tryz.ntmps23
  go_wp2_with (go_at_call 37; refine (rsize_any _ _ _ xs _ H.out).mono ?_; rintro e w' ⟨rfl, hw'⟩; obtain rfl := hw'.symm; rw [HE.out, HSN.out])
  have hrow := World.rowIs_made w (.int .i64 0) len 3
  have hint : Ints (w.alloc (.cells (madeCells #[.int .i64 0] len) 3)) (some ⟨w.heap.size, 0, none⟩) len (dig xs 0) := by
    refine ⟨by rw [dig_length]; exact HL.out, by omega, fun x hx => ?_, .inr ⟨_, _, rfl, fun j hj => ?_⟩⟩
    · rw [dig_zero] at hx
      have := List.eq_of_mem_replicate hx; omega
    · rw [Nat.zero_add, hrow.cell hj, dig_zero]
      have : j < xs.length := by rw [HL.out]; exact hj
      simp [this]
  clear hmk
  go_loopw [5, 6, 7] (fun at' out more wr => ∃ (i : Nat) (vs : List Value) (b : Bool), i < N ∧ more = .bool b ∧ wr.ownsRow w.heap.size 22 1 out (i + 1) vs ∧ ValsC wr w.heap.size (i + 1) len (fun i => dig xs i) vs ∧ (∃ g c, out = .slice (some ⟨g, 0, none⟩) (i + 1) c) ∧ (b = true → ∃ g c, at' = .slice (some ⟨g, 0, none⟩) len c ∧ Ints wr (some ⟨g, 0, none⟩) len (dig xs i)) ∧ (b = false → i + 1 = N) ∧ Below w.heap.size w wr)
    (fun _ out more _ => if boolOf more = true then N + 1 - sliceLen out else 0)
  case atStart =>
    refine ⟨0, [.slice (some ⟨w.heap.size, 0, none⟩) len len], true, by omega, rfl, ?_, ⟨rfl, fun i hi => ?_⟩, ⟨_, _, rfl⟩, fun _ => ⟨_, _, rfl, hint.below ((Below.refl _ _).alloc (Nat.le_refl _) _)⟩, (fun h => by cases h), ((Below.refl _ _).alloc (Nat.le_refl _) _).alloc (by simp) _⟩
    · refine ⟨rfl, .inr ⟨_, 1, #[.slice (some ⟨w.heap.size, 0, none⟩) len len], rfl, ?_, ?_, Nat.le_refl _, by decide, rfl, rfl⟩⟩
      · simp
      · have := World.alloc_heap_new (w.alloc (.cells (madeCells #[.int .i64 0] len) 3)) (.cells #[.slice (some ⟨w.heap.size, 0, none⟩) len len] 22)
        rwa [World.size_alloc] at this
    · obtain rfl : i = 0 := by omega
      exact ⟨_, _, Nat.le_refl _, rfl, hint.below ((Below.refl _ _).alloc (Nat.le_refl _) _), Nat.le_refl _⟩
  case round =>
    clear hrow hint
    obtain ⟨i, vs, b, hi, rfl, hown, hvs, ⟨g, c, rfl⟩, hat, hend, hB⟩ := hrel
    cases b with
    | false =>
      obtain rfl := hend rfl
      go_wp2
      go_ret
      refine ⟨⟨_, ⟨_, rfl⟩, .inr ⟨g, rfl, (hown.lt g rfl).1, fun j hj => ?_⟩⟩, hB⟩
      obtain ⟨gj, cj, h0, h1, h2, h3⟩ := hvs.2 j (by omega)
      refine ⟨gj, cj, h0, ?_, h2, h3⟩
      rw [hown.cellAt j (by omega)]
      exact h1
    | true =>
      obtain ⟨ga, ca, rfl, hai⟩ := hat rfl
      have HO := hide hown
      have HV := hide hvs
      have HB := hide hB
      have HA := hide hai
      clear hown hvs hB hai hat hend
      have hdb : Hid (∀ j, j < len → 0 ≤ (dig xs i)[j]?.getD 0 ∧ (dig xs i)[j]?.getD 0 ≤ 4096) := fun j hj => by
        have hj' : j < xs.length := by rw [HL.out]; exact hj
        have h1 := dig_bd xs i HPOS.out (by omega) (by rw [HNP.out]; omega) j hj'
        have h2 := HZ2.out _ (mem_getD xs j hj')
        omega
      have hnx := next_dig xs i HPOS.out (by omega) (by rw [HNP.out]; omega)
      rw [HNP.out] at hnx
      by_cases hlast : i + 1 < N
      · rw [if_pos (by omega)] at hnx
        have HNX := hide hnx
        clear hnx
        go_wp2_with (first
          | (go_at_call 39; refine (rnext_cap _ _ _ xs _ _ (dig xs i) _ (H.out.below HB.out) HA.out hlen hdb.out).mono ?_; rintro e w2 ⟨⟨g2, c2, rfl, hi2, hg2, hg3, hcp⟩, hb2⟩; rw [HNX.out] at hi2 ⊢; have HI2 := hide hi2; have HB2 := hide hb2; have HO2 := hide (own_below HO.out hb2); clear hi2 hb2)
          | (at_builtin; refine wpList_append_own _ rfl _ _ 45 rfl w.heap.size 22 i0 (.slice none 0 0) 1 24 Tryz.underlying45 HI.out HZ0.out HZ1.out HZ2'.out rfl (by decide) _ _ _ rfl (HO2.out.alloc _) ⟨w2.heap.size, 0, none⟩ 1 1 [.slice (some ⟨g2, 0, none⟩) len c2] rfl rfl (cell_one_new _ _ _) (by simp [Value.oneCell']) (by unfold maxLen; omega) (by omega) (by have := HB.out.size; have := HB2.out.size; simp; omega) ?_; intro v' w3 hown' hgrow hnn; obtain ⟨g', c', rfl⟩ := ownsRow_succ hown'; have HO' := hide hown'; have HG' := hide hgrow; clear hown' hgrow hnn))
        go_wp2
        go_roundw
        case rel =>
          have hv0 : ∃ a l c, vs[0]? = some (.slice a l c) := by obtain ⟨g, c, _, h1, _⟩ := HV.out.2 0 (by omega); exact ⟨_, _, _, h1⟩
          refine ⟨i + 1, vs ++ [.slice (some ⟨g2, 0, none⟩) len c2], true, hlast, rfl, HO'.out, ⟨by simp [HV.out.1], fun j hj => ?_⟩, ⟨_, _, rfl⟩, fun _ => ⟨_, _, rfl, ints_own_grown HI2.out HO2.out hv0 HG'.out⟩, (fun h => by cases h), ?_⟩
          · by_cases hj' : j < i + 1
            · obtain ⟨gj, cj, h0, h1, h2, h3⟩ := HV.out.2 j hj'
              exact ⟨gj, cj, h0, by rw [List.getElem?_append_left (by rw [HV.out.1]; exact hj')]; exact h1, ints_own_grown (h2.below HB2.out) HO2.out hv0 HG'.out, h3⟩
            · obtain rfl : j = i + 1 := by omega
              exact ⟨g2, c2, by have := HB.out.size; omega, by rw [List.getElem?_append_right (by rw [HV.out.1]; omega)]; simp [HV.out.1], ints_own_grown HI2.out HO2.out hv0 HG'.out, hcp⟩
          · have hb := Below.on HB.out HB2.out
            refine (hb.alloc hb.size _).grown HG'.out (by have := hb.size; simp; omega) (fun j e => ?_)
            exact (HO2.out.lt j e).1
        case measure => simp [boolOf, sliceLen]; omega
      · rw [if_neg (by omega)] at hnx
        have HNX := hide hnx
        clear hnx
        go_wp2_with (go_at_call 39; refine (rnext_cap _ _ _ xs _ _ (dig xs i) _ (H.out.below HB.out) HA.out hlen hdb.out).mono ?_; rintro e w2 ⟨⟨g2, c2, rfl, hi2, hg2, hg3, hcp⟩, hb2⟩; rw [HNX.out] at hi2 ⊢; have HI2 := hide hi2; have HB2 := hide hb2; have HO2 := hide (own_below HO.out hb2); clear hi2 hb2)
        go_roundw
        case rel =>
          exact ⟨i, vs, false, hi, rfl, HO2.out, ⟨HV.out.1, fun j hj => by obtain ⟨gj, cj, h0, h1, h2, h3⟩ := HV.out.2 j hj; exact ⟨gj, cj, h0, h1, h2.below HB2.out, h3⟩⟩, ⟨_, _, rfl⟩, (fun h => by cases h), fun _ => by omega, Below.on HB.out HB2.out⟩
        case measure => simp [boolOf, sliceLen]; omega

theorem rall_anyC (a : Option Addr) (len cap : Nat) (xs : List Int) (w : World) (h : Ints w a len xs) (hE : sizeE xs = 0) :
    Calls Tryz.prog 23 #[.slice a len cap] w fun e w' => (∃ (A : Option Addr) (c : Nat), e = .returned (.slice A (prod xs).toNat c) ∧ ListsC w' w.heap.size A (prod xs).toNat len (fun i => dig xs i)) ∧ Below w.heap.size w w' := by
  rcases dims_cases hE with ⟨_, h1, h2⟩ | ⟨h1, _⟩
  · rw [h2]
    refine (rall_none a len cap xs w h hE h1).mono ?_
    rintro e w' ⟨rfl, hb⟩
    exact ⟨⟨none, 0, rfl, .inl rfl⟩, hb⟩
  · exact rall_okC a len cap xs w h hE h1
end Go.Proofs.YtoagnhppjlcpkaaGreat.V

/-
  Contract: adjointref2.Do, where it tells no error, over what entry tells.
-/
namespace Go.Proofs.YtoagnhppjlcpkaaGreat.V
set_option maxRecDepth 20000
open Go.RowKit

theorem ints_grown' {w w' : World} {g n : Nat} {xs : List Int} {row : Option Nat} (h : Ints w (some ⟨g, 0, none⟩) n xs) (hg : w.grownBy w' row) (hne : 0 < n → some g ≠ row) : Ints w' (some ⟨g, 0, none⟩) n xs := by
  obtain ⟨h1, h2, h3, h4⟩ := h
  refine ⟨h1, h2, h3, ?_⟩
  rcases h4 with h4 | ⟨b, off, e, hc⟩
  · exact .inl h4
  by_cases h0 : n = 0
  · exact .inl h0
  refine .inr ⟨b, off, e, fun j hj => ?_⟩
  cases e
  have c := hc j hj
  exact (World.cell?_of_block (hg.block g (lt_of_cell c) (hne (by omega)))).trans c
theorem ints_save' {w w' : World} {g n O : Nat} {xs : List Int} (h : Ints w (some ⟨g, 0, none⟩) n xs) (hs : Save O w w') (hne : g ≠ O) : Ints w' (some ⟨g, 0, none⟩) n xs := by
  obtain ⟨h1, h2, h3, h4⟩ := h
  refine ⟨h1, h2, h3, ?_⟩
  rcases h4 with h4 | ⟨b, off, e, hc⟩
  · exact .inl h4
  refine .inr ⟨b, off, e, fun j hj => ?_⟩
  cases e
  have c := hc j hj
  exact (World.cell?_of_block (hs.1 g (lt_of_cell c) hne)).trans c
theorem grown_trans {row : Option Nat} (w w' w'' : World) (h : w.grownBy w' row) (k : w'.grownBy w'' row) : w.grownBy w'' row :=
  ⟨k.os.trans h.os, k.tape.trans h.tape, k.output.trans h.output, Nat.le_trans h.size k.size, fun i hi hne => (k.block i (Nat.lt_of_lt_of_le hi h.size) hne).trans (h.block i hi hne)⟩
theorem grown_of {row : Option Nat} (w w' : World) (h : Below w.heap.size w w') : w.grownBy w' row := ⟨h.os, h.tape, h.output, h.size, fun i hi _ => h.block i hi⟩
theorem wp_append_own {P : Program} {w : World} {o : Oper} {a : Act} {K : Act → World → Prop} {Q : Exit → Act → World → Prop} (s x : Operand) (t e : TypeId) (ho : o.op = .call { callee := .builtin .append, args := #[s, x], argTypes := #[t, t] })
    (ht : P.underlying t = some (.slice e)) (hi : (P.info? e).map (fun i => (i.zero, i.size, i.bytes)) = some (some (.int .i64 0), 1, 8)) (base : Nat) (v : Value) (n : Nat) (xs : List Value) (hs : a.eval s = v) (hown : w.ownsRow base e 1 v n xs)
    (B : Nat) (y : Int) (hx : a.eval x = .slice (some ⟨B, 0, none⟩) 1 1) (hy : w.cell? ⟨B, 0, none⟩ = some (.int .i64 y)) (h63 : n ≤ 65536) (hbase : base ≤ w.heap.size)
    (h : ∀ v' w', w'.ownsRow base e 1 v' (n + 1) (xs ++ [.int .i64 y]) → w.grownBy w' v.ownBlock → K (a.put o.dst v') w') : o.wp P a w K Q := by
  obtain ⟨i, hi1, hz, hsz, hby⟩ : ∃ i, P.info? e = some i ∧ i.zero = some (.int .i64 0) ∧ i.size = 1 ∧ i.bytes = 8 := by
    cases hh : P.info? e with
    | none => rw [hh] at hi; cases hi
    | some i =>
      rw [hh] at hi
      simp only [Option.map_some, Option.some.injEq, Prod.mk.injEq] at hi
      exact ⟨i, rfl, hi.1, hi.2.1, hi.2.2⟩
  obtain ⟨v', w', hr, h2, h3, h4, h5⟩ := run_append_own_at (P := P) w base t o.type e i (.int .i64 0) 1 8 ht hi1 hz hsz hby rfl (by decide) v n xs hown ⟨B, 0, none⟩ 1 1 [.int .i64 y] rfl (fun j u hj => by
    match j, hj with
    | 0, hj =>
      simp at hj
      subst hj
      rw [Go.WideShapes.add_plain]
      exact hy) (by simp [Value.oneCell']) (by unfold maxLen; omega) (by omega) hbase
  unfold Oper.wp execOp
  simp only [ho, resolve, invoke, builtin, Sem.run_bind, Sem.run_pure, Result.andThen_ok, List.map_toArray, List.map_cons, List.map_nil, hs, hx, hr]
  exact h v' w' h2 h3
/-- A new cell, out of the row. -/
def fCell (row : Option Nat) (y : Int) : Fact := ⟨fun u W => ∃ B, u = .slice (some ⟨B, 0, none⟩) 1 1 ∧ W.cell? ⟨B, 0, none⟩ = some (.int .i64 y) ∧ some B ≠ row, false⟩
theorem fCell_good (row : Option Nat) (y : Int) : (fCell row y).GoodR (fun a b => a.grownBy b row) false := ⟨fun _ _ _ ⟨B, h1, h2, h3⟩ hb => ⟨B, h1, (hb.cell (p := ⟨B, 0, none⟩) (lt_of_cell h2)).trans h2, h3⟩, fun _ _ _ _ ⟨B, h1, h2, h3⟩ hg => ⟨B, h1, (World.cell?_of_block (hg.block B (lt_of_cell h2) h3)).trans h2, h3⟩, fun h => by cases h⟩
/-- The row that has grown. -/
def fOwn (base : Nat) (t : TypeId) (n : Nat) (xs : List Value) : Fact := ⟨fun u W => W.ownsRow base t 1 u n xs, false⟩
theorem fOwn_good (base : Nat) (t : TypeId) (n : Nat) (xs : List Value) (R : World → World → Prop) : (fOwn base t n xs).GoodR R true := ⟨fun _ _ _ h hb => own_below h hb, (fun h => by cases h), (fun h => by cases h)⟩
theorem fIs_goodR (c : Value) (R : World → World → Prop) (b : Bool) : (fIs c).GoodR R b := ⟨fun _ _ _ h _ => h, fun _ _ _ _ h _ => h, fun h => by cases h⟩
def entRow (f : Nat → Int) (j : Nat) : List Value := ((List.range j).map f).map (Value.int .i64)
theorem entRow_succ (f : Nat → Int) (j : Nat) : entRow f (j + 1) = entRow f j ++ [.int .i64 (f j)] := by simp [entRow, List.range_succ]
theorem ArrAt.set1 {w : World} {b : Nat} {c0 c1 : Value} (h : ArrAt w b c0 c1) (d : Value) : ArrAt (w.setCell ⟨b, 1, none⟩ d) b c0 d := by
  unfold ArrAt at *
  simp [World.setCell, Array.getElem?_modify, h]
theorem Save.set {O : Nat} {w w' : World} (h : Save O w w') (i : Nat) (u : Value) : Save O w (w'.setCell ⟨O, i, none⟩ u) :=
  ⟨fun c hc hne => (Below.heap_setCell _ _ _ _ hne).trans (h.1 c hc hne), h.2.setCell (p := ⟨O, i, none⟩) (Nat.zero_le _) u⟩
theorem Save.grown {O : Nat} {w w' w'' : World} {row : Option Nat} (h : Save O w w') (hg : w'.grownBy w'' row) (hr : ∀ i, row = some i → w.heap.size ≤ i) : Save O w w'' :=
  ⟨fun c hc hne => (hg.block c (Nat.lt_of_lt_of_le hc h.2.size) (fun e => by have := hr c e.symm; omega)).trans (h.1 c hc hne), h.2.grown hg (Nat.zero_le _) (fun _ _ => Nat.zero_le _)⟩

theorem arrE_of' {L : List Int} (h : sizeE L = 0) : arrE L (prod L).toNat = 0 := by
  have hn : 0 ≤ prod L := by
    by_cases p : ∀ x ∈ L, 1 ≤ x
    · have := prod_pos L p; omega
    · have hz : (0 : Int) ∈ L := by
        simp only [Classical.not_forall] at p
        obtain ⟨x, hx, hn⟩ := p
        have := (sizeE_ok h).2.1 x hx
        obtain rfl : x = 0 := by omega
        exact hx
      have e := (sizeE_ok h).2.2.2 hz
      rw [size_prod h] at e
      omega
  unfold arrE
  rw [if_neg (by rw [h]; simp), if_neg (by rw [size_prod h]; simp; omega)]

end Go.Proofs.YtoagnhppjlcpkaaGreat.V

/-
  Contract: adjointref2.entry, of Take.
-/
namespace Go.Proofs.YtoagnhppjlcpkaaGreat.V
set_option maxRecDepth 20000
open Go.RowKit

/-- A list. -/
def fLst (xs : List Int) : Fact := ⟨fun v w => ∃ X n c, v = .slice X n c ∧ Lst w X n c xs, false⟩
theorem fLst_good (xs : List Int) : (fLst xs).Good := ⟨fun _ _ _ ⟨X, n, c, h1, h2⟩ hb => ⟨X, n, c, h1, h2.below hb⟩, fun h => by cases h⟩

end Go.Proofs.YtoagnhppjlcpkaaGreat.V

/-
  Contract: adjointref2.Do, of Take.
-/
namespace Go.Proofs.YtoagnhppjlcpkaaGreat.V
set_option maxRecDepth 20000
open Go.RowKit

end Go.Proofs.YtoagnhppjlcpkaaGreat.V
