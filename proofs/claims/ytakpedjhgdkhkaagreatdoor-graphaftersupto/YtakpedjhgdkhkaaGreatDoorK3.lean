/-
  
-/
import Derived.Test.YtakpedjhgdkhkaaGreatDoorK2
import Derived.Laws.CopyOwn
import Derived.Deep.OwnRows
namespace Go.Proofs.YtakpedjhgdkhkaaGreatDoor.V
set_option maxRecDepth 100000
set_option maxHeartbeats 8000000
open Go.RowKit
theorem info_int:(Tryz.prog.info? 3).map (fun i=>(i.zero,i.size,i.bytes))=some (some (.int .i64 0),1,8):=by kernel_rfl
theorem size_int:(Tryz.prog.info? 3).map (·.size)=some 1:=by kernel_rfl
def RowI (w:World) (g len:Nat) (xs:List Int):Prop:=w.rowIs g 3 len (fun j=>.int .i64 (xs[j]?.getD 0))
theorem ints_of_rowI {w:World} {g len:Nat} {xs:List Int} (h:RowI w g len xs) (hl:xs.length=len) (hm:len<=9223372036854775807) (hb:∀ x∈xs,-9223372036854775808<=x/\x<=9223372036854775807):Ints w (some ⟨g,0,none⟩) len xs :=
 ⟨hl,hm,hb,.inr ⟨g,0,rfl,fun j hj=>by rw [Nat.zero_add];exact h.cell hj⟩⟩
theorem bcell {W w1:World} (hb:Below W.heap.size W w1):(∀ b o,b<W.heap.size->w1.cell? ⟨b,o,none⟩=W.cell? ⟨b,o,none⟩)/\(∀ b o,b<W.heap.size->w1.frozen? ⟨b,o,none⟩=W.frozen? ⟨b,o,none⟩) :=
 ⟨fun b o h=>hb.cell (p:=⟨b,o,none⟩) h,fun b o h=>hb.frozen (p:=⟨b,o,none⟩) h⟩
theorem RowI.below {w w':World} {g len:Nat} {xs:List Int} (h:RowI w g len xs) (hb:Below w.heap.size w w'):RowI w' g len xs:=h.of_block (hb.block g h.lt)
theorem bl_new {w:World} (o:Obj):Below w.heap.size w (w.alloc o):=(Below.refl _ _).alloc (Nat.le_refl _) _
theorem bl_on {w w1 w2:World} (h:Below w.heap.size w w1) (k:Below w1.heap.size w1 w2):Below w.heap.size w w2:=h.trans (k.mono h.size)
theorem alloc_cell {w:World} {p:Addr} {v:Value} {o:Obj} (h:w.cell? p=some v):(w.alloc o).cell? p=some v:=(World.cell?_alloc_lt _ _ _ (lt_of_cell h)).trans h
theorem drew_cell {w:World} {p:Addr} {v:Value} (h:w.cell? p=some v):w.drew.cell? p=some v:=h
end Go.Proofs.YtakpedjhgdkhkaaGreatDoor.V
