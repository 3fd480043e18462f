/-
  Trees and lists in memory.
-/
import Derived.Test.YtadhlnlcdljamaaGreatDoorTxGram
namespace Go.Proofs.YtadhlnlcdljamaaGreatDoor.V
set_option maxRecDepth 20000
open Go.RowKit

/-- What lies in such blocks is us it was. -/
def Keep (S : Nat → Prop) (w w' : World) : Prop := w.heap.size ≤ w'.heap.size ∧ ∀ b, S b → b < w.heap.size → w'.heap[b]? = w.heap[b]?
theorem Keep.refl (S : Nat → Prop) (w : World) : Keep S w w := ⟨Nat.le_refl _, fun _ _ _ => rfl⟩
theorem Keep.trans {S : Nat → Prop} {a b c : World} (h : Keep S a b) (k : Keep S b c) : Keep S a c := ⟨Nat.le_trans h.1 k.1, fun x hx hl => (k.2 x hx (Nat.lt_of_lt_of_le hl h.1)).trans (h.2 x hx hl)⟩
theorem Keep.of_grown {S : Nat → Prop} {w w' : World} {row : Option Nat} (h : w.grownBy w' row) (hs : ∀ b, S b → b < w.heap.size → some b ≠ row) : Keep S w w' := ⟨h.size, fun b hb hl => h.block b hl (hs b hb hl)⟩
theorem Keep.of_below {S : Nat → Prop} {w w' : World} (h : Below w.heap.size w w') : Keep S w w' := ⟨h.size, fun b _ hl => h.block b hl⟩
theorem Keep.alloc {S : Nat → Prop} (w : World) (o : Obj) : Keep S w (w.alloc o) := Keep.of_grown (World.grownBy_alloc w o none) (fun _ _ _ => by simp)

/-- A slice with so many entries, whose cells these are. -/
def RowV (w : World) (S : Nat → Prop) (v : Value) (n : Nat) (cs : List Value) : Prop :=
  ∃ A c, v = .slice A n c ∧ n ≤ c ∧ (cs = [] ∧ n = 0 ∨ ∃ g, A = some ⟨g, 0, none⟩ ∧ S g ∧ g < w.heap.size ∧ ∀ j, j < cs.length → w.cell? ⟨g, j, none⟩ = cs[j]?)
theorem RowV.keep {w w' : World} {S : Nat → Prop} {v : Value} {n : Nat} {cs : List Value} (h : RowV w S v n cs) (k : Keep S w w') : RowV w' S v n cs := by
  obtain ⟨A, c, rfl, hc, h⟩ := h
  refine ⟨A, c, rfl, hc, ?_⟩
  rcases h with h | ⟨g, rfl, h1, h2, h3⟩
  · exact .inl h
  · exact .inr ⟨g, rfl, h1, Nat.lt_of_lt_of_le h2 k.1, fun j hj => (World.cell?_of_block (a := ⟨g, j, none⟩) (k.2 g h1 h2)).trans (h3 j hj)⟩
theorem RowV.weaken {w : World} {S S' : Nat → Prop} {v : Value} {n : Nat} {cs : List Value} (h : RowV w S v n cs) (k : ∀ b, b < w.heap.size → S b → S' b) : RowV w S' v n cs := by
  obtain ⟨A, c, rfl, hc, h⟩ := h
  refine ⟨A, c, rfl, hc, ?_⟩
  rcases h with h | ⟨g, rfl, h1, h2, h3⟩
  · exact .inl h
  · exact .inr ⟨g, rfl, k g h2 h1, h2, h3⟩
theorem RowV.nil (w : World) (S : Nat → Prop) (A : Option Addr) (c : Nat) : RowV w S (.slice A 0 c) 0 [] := ⟨A, c, rfl, Nat.zero_le _, .inl ⟨rfl, rfl⟩⟩
theorem RowV.of_own {w : World} {B : Nat} {t : TypeId} {k : Nat} {v : Value} {n : Nat} {xs : List Value} (S : Nat → Prop) (h : w.ownsRow B t k v n xs) (hS : ∀ b, v.ownBlock = some b → S b) : RowV w S v n xs := by
  have h' := h
  have hl := h.1
  rcases h.2 with ⟨rfl, rfl⟩ | ⟨g, cap, cur, rfl, h3, h5, h4, h6⟩
  · have : xs = [] := by simpa using hl
    subst this
    exact RowV.nil _ _ _ _
  · exact ⟨_, _, rfl, h4, .inr ⟨g, rfl, hS g rfl, (Array.getElem?_eq_some_iff.1 h5).1, fun j hj => h'.cellAt j (by omega)⟩⟩

/-- Entries one behind the other, each us p says. -/
def RowsV {α : Type} (p : α → List Value → Prop) : List α → List Value → Prop
  | [], cs => cs = []
  | a :: us, cs => ∃ c1 c2, cs = c1 ++ c2 ∧ p a c1 ∧ RowsV p us c2
theorem RowsV.mono {α : Type} {p q : α → List Value → Prop} (h : ∀ a cs, p a cs → q a cs) : ∀ {us : List α} {cs : List Value}, RowsV p us cs → RowsV q us cs
  | [], _, h0 => h0
  | _ :: _, _, ⟨c1, c2, e, h1, h2⟩ => ⟨c1, c2, e, h _ _ h1, RowsV.mono h h2⟩
theorem RowsV.snoc {α : Type} {p : α → List Value → Prop} {a : α} {c : List Value} (hp : p a c) : ∀ {us : List α} {cs : List Value}, RowsV p us cs → RowsV p (us ++ [a]) (cs ++ c)
  | [], _, h => by
    have e : _ = [] := h
    subst e
    exact ⟨c, [], by simp, hp, rfl⟩
  | _ :: _, _, ⟨c1, c2, e, h1, h2⟩ => ⟨c1, c2 ++ c, by rw [e, List.append_assoc], h1, RowsV.snoc hp h2⟩
theorem RowsV.one {α : Type} {p : α → List Value → Prop} {a : α} {c : List Value} (h : p a c) : RowsV p [a] c := ⟨c, [], by simp, h, rfl⟩
theorem RowsV.at {α : Type} {p : α → List Value → Prop} {k : Nat} (hk : ∀ a c, p a c → c.length = k) : ∀ {us : List α} {cs : List Value} (i : Nat) (a : α), RowsV p us cs → us[i]? = some a → ∃ c, p a c ∧ ∀ j, j < k → cs[i * k + j]? = c[j]?
  | [], _, i, a, _, h => by simp at h
  | a0 :: us, _, 0, a, ⟨c1, c2, e, h1, h2⟩, h => by
    obtain rfl : a0 = a := by simpa using h
    refine ⟨c1, h1, fun j hj => ?_⟩
    have := hk _ _ h1
    rw [e, Nat.zero_mul, Nat.zero_add, List.getElem?_append_left (by omega)]
  | a0 :: us, _, i + 1, a, ⟨c1, c2, e, h1, h2⟩, h => by
    obtain ⟨c, hc, hj⟩ := RowsV.at hk i a h2 (by simpa using h)
    refine ⟨c, hc, fun j hjk => ?_⟩
    have := hk _ _ h1
    rw [e, List.getElem?_append_right (by rw [this, Nat.succ_mul]; omega), ← hj j hjk]
    congr 1
    rw [this, Nat.succ_mul]
    omega
theorem RowsV.length {α : Type} {p : α → List Value → Prop} {k : Nat} (hk : ∀ a c, p a c → c.length = k) : ∀ {us : List α} {cs : List Value}, RowsV p us cs → cs.length = us.length * k
  | [], _, h => by
    have e : _ = [] := h
    subst e
    simp
  | _ :: _, _, ⟨c1, c2, e, h1, h2⟩ => by
    have a1 := hk _ _ h1
    have a2 := RowsV.length hk h2
    rw [e, List.length_append, a1, a2, List.length_cons, Nat.succ_mul]
    omega

def DimV (_ : World) (_ : Nat → Prop) (d : ByteArray × Int) (cs : List Value) : Prop := cs = [.string d.1, .int .i64 d.2]
def IntV (_ : World) (_ : Nat → Prop) (d : Int) (cs : List Value) : Prop := cs = [.int .i64 d]
/-- A slice of such entries. -/
def SliceV {α : Type} (p : World → (Nat → Prop) → α → List Value → Prop) (w : World) (S : Nat → Prop) (us : List α) (v : Value) : Prop := ∃ cs, RowV w S v us.length cs ∧ RowsV (p w S) us cs
def ListV (w : World) (S : Nat → Prop) (l : List Int) (cs : List Value) : Prop := ∃ v, cs = [v] ∧ SliceV IntV w S l v
mutual
def TreeV (w : World) (S : Nat → Prop) : Tr → List Value → Prop
  | .mk kind name num shaped shape lists kids, cs => ∃ vs vl vk ck, cs = [.int .i64 kind, .string name, .int .i64 num, .bool shaped, vs, vl, vk] ∧ SliceV DimV w S shape vs ∧ SliceV ListV w S lists vl ∧ RowV w S vk kids.length ck ∧ KidsV w S kids ck
def KidsV (w : World) (S : Nat → Prop) : List Tr → List Value → Prop
  | [], cs => cs = []
  | t :: ts, cs => ∃ c1 c2, cs = c1 ++ c2 ∧ TreeV w S t c1 ∧ KidsV w S ts c2
end
theorem KidsV.rows {w : World} {S : Nat → Prop} : ∀ {ts : List Tr} {cs : List Value}, KidsV w S ts cs ↔ RowsV (TreeV w S) ts cs
  | [], _ => by rw [KidsV, RowsV]
  | t :: ts, cs => by
    rw [KidsV, RowsV]
    constructor
    · rintro ⟨c1, c2, e, h1, h2⟩; exact ⟨c1, c2, e, h1, KidsV.rows.1 h2⟩
    · rintro ⟨c1, c2, e, h1, h2⟩; exact ⟨c1, c2, e, h1, KidsV.rows.2 h2⟩
theorem TreeV.iff {w : World} {S : Nat → Prop} {kind : Int} {name : ByteArray} {num : Int} {shaped : Bool} {shape : List (ByteArray × Int)} {lists : List (List Int)} {kids : List Tr} {cs : List Value} :
    TreeV w S (.mk kind name num shaped shape lists kids) cs ↔ ∃ vs vl vk, cs = [.int .i64 kind, .string name, .int .i64 num, .bool shaped, vs, vl, vk] ∧ SliceV DimV w S shape vs ∧ SliceV ListV w S lists vl ∧ SliceV TreeV w S kids vk := by
  rw [TreeV]
  constructor
  · rintro ⟨vs, vl, vk, ck, e, h1, h2, h3, h4⟩; exact ⟨vs, vl, vk, e, h1, h2, ck, h3, KidsV.rows.1 h4⟩
  · rintro ⟨vs, vl, vk, e, h1, h2, ck, h3, h4⟩; exact ⟨vs, vl, vk, ck, e, h1, h2, h3, KidsV.rows.2 h4⟩

/-- What holds of entries goes on to hold. -/
structure Stays {α : Type} (p : World → (Nat → Prop) → α → List Value → Prop) : Prop where
  keep : ∀ {w w' : World} {S : Nat → Prop} {a : α} {cs : List Value}, p w S a cs → Keep S w w' → p w' S a cs
  weaken : ∀ {w : World} {S S' : Nat → Prop} {a : α} {cs : List Value}, p w S a cs → (∀ b, b < w.heap.size → S b → S' b) → p w S' a cs
theorem Stays.slice {α : Type} {p : World → (Nat → Prop) → α → List Value → Prop} (H : Stays p) {w w' : World} {S : Nat → Prop} {us : List α} {v : Value} (h : SliceV p w S us v) (k : Keep S w w') : SliceV p w' S us v := by
  obtain ⟨cs, h1, h2⟩ := h
  exact ⟨cs, h1.keep k, h2.mono fun _ _ h => H.keep h k⟩
theorem Stays.slice_weaken {α : Type} {p : World → (Nat → Prop) → α → List Value → Prop} (H : Stays p) {w : World} {S S' : Nat → Prop} {us : List α} {v : Value} (h : SliceV p w S us v) (k : ∀ b, b < w.heap.size → S b → S' b) : SliceV p w S' us v := by
  obtain ⟨cs, h1, h2⟩ := h
  exact ⟨cs, h1.weaken k, h2.mono fun _ _ h => H.weaken h k⟩
theorem DimV.stays : Stays DimV := ⟨fun h _ => h, fun h _ => h⟩
theorem IntV.stays : Stays IntV := ⟨fun h _ => h, fun h _ => h⟩
theorem ListV.stays : Stays ListV := ⟨fun ⟨v, e, h⟩ k => ⟨v, e, IntV.stays.slice h k⟩, fun ⟨v, e, h⟩ k => ⟨v, e, IntV.stays.slice_weaken h k⟩⟩
mutual
theorem TreeV.keep' {w w' : World} {S : Nat → Prop} (k : Keep S w w') : ∀ (t : Tr) (cs : List Value), TreeV w S t cs → TreeV w' S t cs
  | .mk kind name num shaped shape lists kids, cs, h => by
    rw [TreeV] at h ⊢
    obtain ⟨vs, vl, vk, ck, e, h1, h2, h3, h4⟩ := h
    exact ⟨vs, vl, vk, ck, e, DimV.stays.slice h1 k, ListV.stays.slice h2 k, h3.keep k, KidsV.keep' k kids ck h4⟩
theorem KidsV.keep' {w w' : World} {S : Nat → Prop} (k : Keep S w w') : ∀ (ts : List Tr) (cs : List Value), KidsV w S ts cs → KidsV w' S ts cs
  | [], cs, h => by rw [KidsV] at h ⊢; exact h
  | t :: ts, cs, h => by
    rw [KidsV] at h ⊢
    obtain ⟨c1, c2, e, h1, h2⟩ := h
    exact ⟨c1, c2, e, TreeV.keep' k t c1 h1, KidsV.keep' k ts c2 h2⟩
end
mutual
theorem TreeV.weaken' {w : World} {S S' : Nat → Prop} (k : ∀ b, b < w.heap.size → S b → S' b) : ∀ (t : Tr) (cs : List Value), TreeV w S t cs → TreeV w S' t cs
  | .mk kind name num shaped shape lists kids, cs, h => by
    rw [TreeV] at h ⊢
    obtain ⟨vs, vl, vk, ck, e, h1, h2, h3, h4⟩ := h
    exact ⟨vs, vl, vk, ck, e, DimV.stays.slice_weaken h1 k, ListV.stays.slice_weaken h2 k, h3.weaken k, KidsV.weaken' k kids ck h4⟩
theorem KidsV.weaken' {w : World} {S S' : Nat → Prop} (k : ∀ b, b < w.heap.size → S b → S' b) : ∀ (ts : List Tr) (cs : List Value), KidsV w S ts cs → KidsV w S' ts cs
  | [], cs, h => by rw [KidsV] at h ⊢; exact h
  | t :: ts, cs, h => by
    rw [KidsV] at h ⊢
    obtain ⟨c1, c2, e, h1, h2⟩ := h
    exact ⟨c1, c2, e, TreeV.weaken' k t c1 h1, KidsV.weaken' k ts c2 h2⟩
end
theorem TreeV.stays : Stays TreeV := ⟨fun h k => TreeV.keep' k _ _ h, fun h k => TreeV.weaken' k _ _ h⟩
def GivenV (w : World) (S : Nat → Prop) (g : ByteArray × List (ByteArray × Int)) (cs : List Value) : Prop := ∃ v, cs = [.string g.1, v] ∧ SliceV DimV w S g.2 v
theorem GivenV.stays : Stays GivenV := ⟨fun ⟨v, e, h⟩ k => ⟨v, e, DimV.stays.slice h k⟩, fun ⟨v, e, h⟩ k => ⟨v, e, DimV.stays.slice_weaken h k⟩⟩
def FuncV (w : World) (S : Nat → Prop) (f : FnT) (cs : List Value) : Prop := ∃ v ct, cs = .string f.name :: v :: ct ∧ SliceV GivenV w S f.given v ∧ TreeV w S f.body ct
theorem FuncV.stays : Stays FuncV := ⟨fun ⟨v, ct, e, h, h'⟩ k => ⟨v, ct, e, GivenV.stays.slice h k, TreeV.stays.keep h' k⟩, fun ⟨v, ct, e, h, h'⟩ k => ⟨v, ct, e, GivenV.stays.slice_weaken h k, TreeV.stays.weaken h' k⟩⟩
theorem DimV.len {w : World} {S : Nat → Prop} (d : ByteArray × Int) (cs : List Value) (h : DimV w S d cs) : cs.length = 2 := by rw [h]; rfl
theorem IntV.len {w : World} {S : Nat → Prop} (d : Int) (cs : List Value) (h : IntV w S d cs) : cs.length = 1 := by rw [h]; rfl
theorem ListV.len {w : World} {S : Nat → Prop} (d : List Int) (cs : List Value) (h : ListV w S d cs) : cs.length = 1 := by obtain ⟨v, rfl, _⟩ := h; rfl
theorem GivenV.len {w : World} {S : Nat → Prop} (d : ByteArray × List (ByteArray × Int)) (cs : List Value) (h : GivenV w S d cs) : cs.length = 2 := by obtain ⟨v, rfl, _⟩ := h; rfl
theorem TreeV.len {w : World} {S : Nat → Prop} (t : Tr) (cs : List Value) (h : TreeV w S t cs) : cs.length = 7 := by
  obtain ⟨kind, name, num, shaped, shape, lists, kids⟩ := t
  rw [TreeV.iff] at h
  obtain ⟨vs, vl, vk, rfl, _⟩ := h
  rfl
theorem FuncV.len {w : World} {S : Nat → Prop} (f : FnT) (cs : List Value) (h : FuncV w S f cs) : cs.length = 9 := by obtain ⟨v, ct, rfl, _, h⟩ := h; simp [TreeV.len _ _ h]

/-- A slice that is being made: its row is its own. -/
def GrowV {α : Type} (p : World → (Nat → Prop) → α → List Value → Prop) (t : TypeId) (k : Nat) (w : World) (B : Nat) (S : Nat → Prop) (us : List α) (v : Value) : Prop :=
  ∃ cs, w.ownsRow B t k v us.length cs ∧ RowsV (p w fun b => S b ∧ some b ≠ v.ownBlock) us cs
theorem GrowV.nil {α : Type} (p : World → (Nat → Prop) → α → List Value → Prop) (t : TypeId) (k : Nat) (w : World) (B : Nat) (S : Nat → Prop) : GrowV p t k w B S [] (.slice none 0 0) := ⟨[], World.ownsRow_nil _ _ _ _, rfl⟩
theorem GrowV.slice {α : Type} {p : World → (Nat → Prop) → α → List Value → Prop} (H : Stays p) {t : TypeId} {k : Nat} {w : World} {B : Nat} {S : Nat → Prop} {us : List α} {v : Value} (h : GrowV p t k w B S us v) (hB : ∀ b, B ≤ b → S b) : SliceV p w S us v := by
  obtain ⟨cs, h1, h2⟩ := h
  exact ⟨cs, RowV.of_own S h1 (fun b e => hB b (h1.lt b e).1), h2.mono fun _ _ h => H.weaken h (fun _ _ k => k.1)⟩
theorem GrowV.kept {α : Type} {p : World → (Nat → Prop) → α → List Value → Prop} (H : Stays p) {t : TypeId} {k : Nat} {w w' : World} {B : Nat} {S : Nat → Prop} {us : List α} {v : Value} {row : Option Nat} (h : GrowV p t k w B S us v) (hg : w.grownBy w' row)
    (h1 : v.ownBlock = none ∨ v.ownBlock ≠ row) (h2 : ∀ b, S b → b < w.heap.size → some b ≠ row) : GrowV p t k w' B S us v := by
  obtain ⟨cs, h3, h4⟩ := h
  exact ⟨cs, h3.kept hg h1, h4.mono fun _ _ h => H.keep h (Keep.of_grown hg fun b hb hl => h2 b hb.1 hl)⟩
/-- One more entry. -/
theorem GrowV.snoc {α : Type} {p : World → (Nat → Prop) → α → List Value → Prop} (H : Stays p) {t : TypeId} {k : Nat} {w w' : World} {B : Nat} {S : Nat → Prop} {us : List α} {a : α} {v v' : Value} {cs cs' : List Value} (h2 : RowsV (p w fun b => S b ∧ some b ≠ v.ownBlock) us cs)
    (ha : p w (fun b => S b ∧ some b ≠ v.ownBlock) a cs') (hg : w.grownBy w' v.ownBlock) (hn : v'.ownBlock = v.ownBlock ∨ v'.ownBlock = some w.heap.size) (h' : w'.ownsRow B t k v' (us.length + 1) (cs ++ cs')) : GrowV p t k w' B S (us ++ [a]) v' := by
  have hw : ∀ b, b < w.heap.size → (S b ∧ some b ≠ v.ownBlock) → S b ∧ some b ≠ v.ownBlock ∧ some b ≠ v'.ownBlock := by
    rintro b hb ⟨h3, h4⟩
    refine ⟨h3, h4, ?_⟩
    rcases hn with hn | hn
    · rw [hn]; exact h4
    · intro e; rw [hn] at e; cases e; omega
  have hk : Keep (fun b => S b ∧ some b ≠ v.ownBlock ∧ some b ≠ v'.ownBlock) w w' := Keep.of_grown hg fun b hb _ => hb.2.1
  refine ⟨cs ++ cs', by rw [List.length_append]; exact h', ?_⟩
  have f : ∀ a c, p w (fun b => S b ∧ some b ≠ v.ownBlock) a c → p w' (fun b => S b ∧ some b ≠ v'.ownBlock) a c := fun a c h => H.weaken (H.keep (H.weaken h hw) hk) fun _ _ h => ⟨h.1, h.2.2⟩
  exact RowsV.snoc (f _ _ ha) (h2.mono f)
end Go.Proofs.YtadhlnlcdljamaaGreatDoor.V
