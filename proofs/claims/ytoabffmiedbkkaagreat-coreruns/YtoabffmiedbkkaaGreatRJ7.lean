/-
  A region that draws its order, gone through in stages: readers among themselves in any order, then one operation that all others wait for, and so on.
-/
import Derived.Test.YtoabffmiedbkkaaGreatRJ6
namespace Go.Proofs.YtoabffmiedbkkaaGreat.V
set_option maxRecDepth 20000
open Go

section
variable {F : Fence} {n : Nat} {P : Program} {Q : Exit → Act → World → Prop} {ops : List Oper}

/-- Just the first i operations have come. -/
def Upto (F : Fence) (n : Nat) (P : Program) (Q : Exit → Act → World → Prop) (ops : List Oper) (i : Nat) (c : Act) (W : World) : Prop :=
  ∀ (fuel : Nat) (listed : Array Bool), listed.size = ops.length → (∀ j, j < ops.length → (listed.getD j false = true ↔ j < i)) → ops.length - i ≤ fuel → wpAnyIn F n P .any ops.toArray Q fuel listed c W

def backOk (ops : List Oper) : Bool := (List.range ops.length).all (fun j => (ops[j]?.map fun o => o.after.toList.all fun e => !Region.binds .any e || decide (e.on < j)).getD false)
/-- Whatever comes behind i waits for something from i on. -/
def waitOk (ops : List Oper) (i : Nat) : Bool := (List.range ops.length).all fun k => decide (k ≤ i) || (List.range k).any fun j => decide (i ≤ j) && ((ops[k]?.map fun o => hasEdge o j).getD false)

theorem back_of (h : backOk ops = true) : ∀ (j : Nat) (o : Oper), ops[j]? = some o → ∀ e ∈ o.after, Region.binds .any e = true → e.on < j := by
  intro j o ho e he hbd
  unfold backOk at h
  simp only [List.all_eq_true, List.mem_range] at h
  have := h j (List.getElem?_eq_some_iff.1 ho).1
  rw [ho] at this
  simp only [Option.map_some, Option.getD_some, List.all_eq_true, Bool.or_eq_true, Bool.not_eq_true', decide_eq_true_eq] at this
  exact (this e (by simpa using he)).resolve_left (by rw [hbd]; simp)
theorem wait_of {i : Nat} (h : waitOk ops i = true) : ∀ (k : Nat) (o : Oper), i < k → ops[k]? = some o → ∃ j, i ≤ j ∧ j < k ∧ ∃ e ∈ o.after, Region.binds .any e = true ∧ e.on = j := by
  intro k o hk ho
  unfold waitOk at h
  simp only [List.all_eq_true, List.mem_range] at h
  have := h k (List.getElem?_eq_some_iff.1 ho).1
  simp only [Bool.or_eq_true, decide_eq_true_eq, List.any_eq_true, List.mem_range, Bool.and_eq_true] at this
  rcases this with h | ⟨j, hj, h1, h2⟩
  · omega
  · rw [ho] at h2
    exact ⟨j, h1, hj, edge_of (by simpa using h2)⟩

theorem Upto.done {c : Act} {W : World} (i : Nat) (hi : ops.length ≤ i) (h : Q .normal c W) : Upto F n P Q ops i c W := by
  intro fuel listed hsz hl _
  have hre : Region.ready .any ops.toArray listed = [] := by
    rw [List.eq_nil_iff_forall_not_mem]
    intro k hk
    obtain ⟨h1, o', ho', _⟩ := mem_ready.1 hk
    have hkl : k < ops.length := by
      have := (Array.getElem?_eq_some_iff.1 ho').1
      simpa using this
    have := (hl k hkl).2 (by omega)
    simp [hsz, hkl] at h1 this
    rw [h1] at this; cases this
  cases fuel with
  | zero => exact ⟨hre, h⟩
  | succ f => exact ⟨fun _ => h, fun k hk => by rw [hre] at hk; cases hk⟩

theorem Upto.one {c : Act} {W : World} {o : Oper} (i : Nat) (hb : backOk ops = true) (hw : waitOk ops i = true) (ho : ops[i]? = some o) (hg : o.guard = none) (h : o.wpIn F n P c W (fun c' W' => Upto F n P Q ops (i + 1) c' W') Q) : Upto F n P Q ops i c W := by
  intro fuel listed hsz hl hle
  have hil := (List.getElem?_eq_some_iff.1 ho).1
  have hgt : ∀ j, j < ops.length → (listed.getD j true = false ↔ ¬ j < i) := fun j hj => by
    have := hl j hj
    simp [hsz, hj] at this ⊢
    cases hb : listed[j] <;> simp_all <;> omega
  obtain ⟨fuel, rfl⟩ : ∃ f, fuel = f + 1 := ⟨fuel - 1, by omega⟩
  refine ⟨fun hre => ?_, fun k hk => ?_⟩
  · exfalso
    have : i ∈ Region.ready .any ops.toArray listed := by
      rw [mem_ready]
      refine ⟨(hgt i hil).2 (by omega), o, by simpa using ho, fun e he hbd => ?_⟩
      have := back_of hb i o ho e he hbd
      exact (hl e.on (by omega)).2 this
    rw [hre] at this; cases this
  · obtain ⟨hun, ok, hok, hr⟩ := mem_ready.1 hk
    have hok' : ops[k]? = some ok := by simpa using hok
    have hkl := (List.getElem?_eq_some_iff.1 hok').1
    have hki := (hgt k hkl).1 hun
    obtain rfl : k = i := by
      by_cases e : k = i
      · exact e
      · exfalso
        obtain ⟨j, h1, h2, e', he', hb', hon⟩ := wait_of hw k ok (by omega) hok'
        have := hr e' he' hb'
        rw [hon] at this
        have := (hl j (by omega)).1 this
        omega
    rw [ho] at hok'; cases hok'
    unfold wpOpIn
    simp only [hok]
    rw [if_pos (by simp [Region.wanted, hg])]
    refine Oper.wpIn_mono (fun a' w' hq => ?_) h
    refine hq fuel _ (by simp [hsz]) (fun j hj => ?_) (by omega)
    by_cases e : k = j
    · subst e; simp [hsz, hj]
    · rw [getD_set_ne false e, hl j hj]; omega

/-- The acts on the way. -/
structure Path (ops : List Oper) (i : Nat) (a : Act) (M : Nat) where
  act : Nat → Act
  val : Nat → Value
  zero : act 0 = a
  step : ∀ j o, j < M → ops[i + j]? = some o → act (j + 1) = (act j).put o.dst (val j)

variable {i M : Nat} {a : Act} (t : Path ops i a M)
/-- A call that all others wait for. -/
theorem Upto.call {c : Act} {W : World} {o : Oper} {f : FuncId} {args : Array Value} (i : Nat) (hb : backOk ops = true) (hw : waitOk ops i = true) (ho : ops[i]? = some o) (hg : o.guard = none) (hp : plainOp o.op = true)
    (hab : ∀ f', o.about P W c.eval = some f' → F.fn f') (hrun : (execOp c.eval o).run P W = .ok (.enter f args) W) (h1 : F.depth.isSome = true → 1 ≤ n)
    (hcall : CallsIn F (n - 1) P f args W (fun e W' => ∃ v, e = .returned v ∧ Upto F n P Q ops (i + 1) (c.put o.dst v) W')) : Upto F n P Q ops i c W := by
  refine Upto.one i hb hw ho hg ⟨hab, ?_⟩
  have hnd : ∀ c, o.op ≠ .defer c := fun c e => by rw [e] at hp; simp [plainOp] at hp
  rw [Oper.semAt_plain F _ _ hnd, hrun, Oper.uponIn_enter]
  refine ⟨h1, hcall.mono ?_⟩
  rintro e w' ⟨v, rfl, h⟩
  exact h

/-- The rest, one behind the other. -/
def restOk (ops : List Oper) (i : Nat) : Bool := backOk ops && (List.range ops.length).all fun k => decide (k < i) || (waitOk ops k && ((ops[k]?.map fun o => o.guard.isNone).getD false))
theorem Upto.rest : ∀ (d i : Nat) {c : Act} {W : World}, i + d = ops.length → restOk ops i = true → wpListIn F n P ops.toArray Q (ops.drop i) c W → Upto F n P Q ops i c W := by
  intro d
  induction d with
  | zero =>
    intro i c W hi _ h
    rw [List.drop_eq_nil_of_le (by omega)] at h
    exact Upto.done i (by omega) h
  | succ d ih =>
    intro i c W hi hok h
    have hil : i < ops.length := by omega
    have hok' := hok
    unfold restOk at hok
    simp only [Bool.and_eq_true, List.all_eq_true, List.mem_range, Bool.or_eq_true, decide_eq_true_eq] at hok
    have h1 := (hok.2 i hil).resolve_left (by omega)
    have ho : ops[i]? = some (ops[i]'hil) := List.getElem?_eq_getElem hil
    rw [ho] at h1
    have hg : (ops[i]'hil).guard = none := by simpa using h1.2
    rw [List.drop_eq_getElem_cons hil] at h
    unfold wpListIn at h
    rw [if_pos (by simp [Region.wanted, hg])] at h
    refine Upto.one i hok.1 h1.1 ho hg (Oper.wpIn_mono (fun a' w' hq => ?_) h)
    refine ih (i + 1) (by omega) ?_ hq
    unfold restOk
    simp only [Bool.and_eq_true, List.all_eq_true, List.mem_range, Bool.or_eq_true, decide_eq_true_eq]
    refine ⟨hok.1, fun k hk => ?_⟩
    by_cases e : k < i + 1
    · exact .inl e
    · exact .inr ((hok.2 k hk).resolve_left (by omega))

end
end Go.Proofs.YtoabffmiedbkkaaGreat.V
