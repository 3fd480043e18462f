/-
  
-/
import Derived.Test.YtakpedjhgdkhkaaGreatDoorK2
import Derived.Test.YtakpedjhgdkhkaaGreatDoorK12
namespace Go.Proofs.YtakpedjhgdkhkaaGreatDoor.V
set_option maxRecDepth 100000
set_option maxHeartbeats 8000000
open Go.RowKit
def nilV:Value:=.slice none 0 0
def meantV (k:Int) (vd va vl vh vs:Value) (x:Int):Value :=
 .agg #[.int .i64 k,if k=1\/k=2\/k=9\/k=12\/k=19 then vd else nilV,if k=1\/k=9\/k=10\/k=11\/k=15\/k=17\/k=16 then va else nilV,
  if k=13\/k=14\/k=16 then vl else nilV,if k=13\/k=14\/k=16 then vh else nilV,if k=13\/k=14\/k=16 then vs else nilV,.int .i64 (if k=2 then x else 0)]
theorem meant_1 (ea:Option Addr) (el ec:Nat) (pa:Option Addr) (pl pc:Nat) (la:Option Addr) (ll lc:Nat) (ha:Option Addr) (hl hc:Nat) (ta:Option Addr) (tl tc:Nat) (x:Int) (w:World) :
 Calls Tryz.prog 69 #[.agg #[.int .i64 1,.slice ea el ec,.slice pa pl pc,.slice la ll lc,.slice ha hl hc,.slice ta tl tc,.int .i64 x]] w fun e w'=>e=.returned (meantV 1 (.slice ea el ec) (.slice pa pl pc) (.slice la ll lc) (.slice ha hl hc) (.slice ta tl tc) x)/\Below w.heap.size w w':=by
 have HOP:=hide (OpAt.new w 1 (.slice ea el ec) (.slice pa pl pc) (.slice la ll lc) (.slice ha hl hc) (.slice ta tl tc) x)
 obtain ⟨o0,o1,o2,o3,o4,o5,o6⟩:=HOP.out.cells
 have q:=(OpAt.new (w.alloc (.cells #[.int .i64 1,.slice ea el ec,.slice pa pl pc,.slice la ll lc,.slice ha hl hc,.slice ta tl tc,.int .i64 x] 38)) 1 (.slice ea el ec) (.slice pa pl pc) (.slice none 0 0) (.slice none 0 0) (.slice none 0 0) 0).alloc (.cells #[.int .i64 1,.slice ea el ec,.slice pa pl pc,.slice none 0 0,.slice none 0 0,.slice none 0 0,.int .i64 0] 38)
 simp only [World.size_alloc] at q
 obtain ⟨u0,u1,u2,u3,u4,u5,u6⟩:=q.cells
 have HB1:=(Below.refl w.heap.size w).alloc (Nat.le_refl _) (.cells #[.int .i64 1,.slice ea el ec,.slice pa pl pc,.slice la ll lc,.slice ha hl hc,.slice ta tl tc,.int .i64 x] 38)
 have HB2:=hide (HB1.alloc HB1.size (.cells #[.int .i64 1,.slice ea el ec,.slice pa pl pc,.slice none 0 0,.slice none 0 0,.slice none 0 0,.int .i64 0] 38))
 have HB3:=hide (HB2.out.alloc HB2.out.size (.cells #[.int .i64 1,.slice ea el ec,.slice pa pl pc,.slice none 0 0,.slice none 0 0,.slice none 0 0,.int .i64 0] 38))
 have hv:meantV 1 (.slice ea el ec) (.slice pa pl pc) (.slice la ll lc) (.slice ha hl hc) (.slice ta tl tc) x=.agg #[.int .i64 1,.slice ea el ec,.slice pa pl pc,.slice none 0 0,.slice none 0 0,.slice none 0 0,.int .i64 0]:=by simp [meantV,nilV]
 rw [hv]
 clear q HB1 hv
 go_enter Tryz.func69,Tryz.ntmps69
 go_wp2_with fail
 go_region
 all_goals go_wp2
 all_goals exact bodyPost_ret (v:=.agg #[.int .i64 1,.slice ea el ec,.slice pa pl pc,.slice none 0 0,.slice none 0 0,.slice none 0 0,.int .i64 0]) (by simp [results,Tryz.results69,go_sem,u0,u1,u2,u3,u4,u5,u6]) rfl ⟨rfl,HB3.out.drew⟩
theorem meant_2 (ea:Option Addr) (el ec:Nat) (pa:Option Addr) (pl pc:Nat) (la:Option Addr) (ll lc:Nat) (ha:Option Addr) (hl hc:Nat) (ta:Option Addr) (tl tc:Nat) (x:Int) (w:World) :
 Calls Tryz.prog 69 #[.agg #[.int .i64 2,.slice ea el ec,.slice pa pl pc,.slice la ll lc,.slice ha hl hc,.slice ta tl tc,.int .i64 x]] w fun e w'=>e=.returned (meantV 2 (.slice ea el ec) (.slice pa pl pc) (.slice la ll lc) (.slice ha hl hc) (.slice ta tl tc) x)/\Below w.heap.size w w':=by
 have HOP:=hide (OpAt.new w 2 (.slice ea el ec) (.slice pa pl pc) (.slice la ll lc) (.slice ha hl hc) (.slice ta tl tc) x)
 obtain ⟨o0,o1,o2,o3,o4,o5,o6⟩:=HOP.out.cells
 have q:=(OpAt.new (w.alloc (.cells #[.int .i64 2,.slice ea el ec,.slice pa pl pc,.slice la ll lc,.slice ha hl hc,.slice ta tl tc,.int .i64 x] 38)) 2 (.slice ea el ec) (.slice none 0 0) (.slice none 0 0) (.slice none 0 0) (.slice none 0 0) x).alloc (.cells #[.int .i64 2,.slice ea el ec,.slice none 0 0,.slice none 0 0,.slice none 0 0,.slice none 0 0,.int .i64 x] 38)
 simp only [World.size_alloc] at q
 obtain ⟨u0,u1,u2,u3,u4,u5,u6⟩:=q.cells
 have HB1:=(Below.refl w.heap.size w).alloc (Nat.le_refl _) (.cells #[.int .i64 2,.slice ea el ec,.slice pa pl pc,.slice la ll lc,.slice ha hl hc,.slice ta tl tc,.int .i64 x] 38)
 have HB2:=hide (HB1.alloc HB1.size (.cells #[.int .i64 2,.slice ea el ec,.slice none 0 0,.slice none 0 0,.slice none 0 0,.slice none 0 0,.int .i64 x] 38))
 have HB3:=hide (HB2.out.alloc HB2.out.size (.cells #[.int .i64 2,.slice ea el ec,.slice none 0 0,.slice none 0 0,.slice none 0 0,.slice none 0 0,.int .i64 x] 38))
 have hv:meantV 2 (.slice ea el ec) (.slice pa pl pc) (.slice la ll lc) (.slice ha hl hc) (.slice ta tl tc) x=.agg #[.int .i64 2,.slice ea el ec,.slice none 0 0,.slice none 0 0,.slice none 0 0,.slice none 0 0,.int .i64 x]:=by simp [meantV,nilV]
 rw [hv]
 clear q HB1 hv
 go_enter Tryz.func69,Tryz.ntmps69
 go_wp2_with fail
 go_region
 all_goals go_wp2
 all_goals exact bodyPost_ret (v:=.agg #[.int .i64 2,.slice ea el ec,.slice none 0 0,.slice none 0 0,.slice none 0 0,.slice none 0 0,.int .i64 x]) (by simp [results,Tryz.results69,go_sem,u0,u1,u2,u3,u4,u5,u6]) rfl ⟨rfl,HB3.out.drew⟩
theorem meant_9 (ea:Option Addr) (el ec:Nat) (pa:Option Addr) (pl pc:Nat) (la:Option Addr) (ll lc:Nat) (ha:Option Addr) (hl hc:Nat) (ta:Option Addr) (tl tc:Nat) (x:Int) (w:World) :
 Calls Tryz.prog 69 #[.agg #[.int .i64 9,.slice ea el ec,.slice pa pl pc,.slice la ll lc,.slice ha hl hc,.slice ta tl tc,.int .i64 x]] w fun e w'=>e=.returned (meantV 9 (.slice ea el ec) (.slice pa pl pc) (.slice la ll lc) (.slice ha hl hc) (.slice ta tl tc) x)/\Below w.heap.size w w':=by
 have HOP:=hide (OpAt.new w 9 (.slice ea el ec) (.slice pa pl pc) (.slice la ll lc) (.slice ha hl hc) (.slice ta tl tc) x)
 obtain ⟨o0,o1,o2,o3,o4,o5,o6⟩:=HOP.out.cells
 have q:=(OpAt.new (w.alloc (.cells #[.int .i64 9,.slice ea el ec,.slice pa pl pc,.slice la ll lc,.slice ha hl hc,.slice ta tl tc,.int .i64 x] 38)) 9 (.slice ea el ec) (.slice pa pl pc) (.slice none 0 0) (.slice none 0 0) (.slice none 0 0) 0).alloc (.cells #[.int .i64 9,.slice ea el ec,.slice pa pl pc,.slice none 0 0,.slice none 0 0,.slice none 0 0,.int .i64 0] 38)
 simp only [World.size_alloc] at q
 obtain ⟨u0,u1,u2,u3,u4,u5,u6⟩:=q.cells
 have HB1:=(Below.refl w.heap.size w).alloc (Nat.le_refl _) (.cells #[.int .i64 9,.slice ea el ec,.slice pa pl pc,.slice la ll lc,.slice ha hl hc,.slice ta tl tc,.int .i64 x] 38)
 have HB2:=hide (HB1.alloc HB1.size (.cells #[.int .i64 9,.slice ea el ec,.slice pa pl pc,.slice none 0 0,.slice none 0 0,.slice none 0 0,.int .i64 0] 38))
 have HB3:=hide (HB2.out.alloc HB2.out.size (.cells #[.int .i64 9,.slice ea el ec,.slice pa pl pc,.slice none 0 0,.slice none 0 0,.slice none 0 0,.int .i64 0] 38))
 have hv:meantV 9 (.slice ea el ec) (.slice pa pl pc) (.slice la ll lc) (.slice ha hl hc) (.slice ta tl tc) x=.agg #[.int .i64 9,.slice ea el ec,.slice pa pl pc,.slice none 0 0,.slice none 0 0,.slice none 0 0,.int .i64 0]:=by simp [meantV,nilV]
 rw [hv]
 clear q HB1 hv
 go_enter Tryz.func69,Tryz.ntmps69
 go_wp2_with fail
 go_region
 all_goals go_wp2
 all_goals exact bodyPost_ret (v:=.agg #[.int .i64 9,.slice ea el ec,.slice pa pl pc,.slice none 0 0,.slice none 0 0,.slice none 0 0,.int .i64 0]) (by simp [results,Tryz.results69,go_sem,u0,u1,u2,u3,u4,u5,u6]) rfl ⟨rfl,HB3.out.drew⟩
theorem meant_10 (ea:Option Addr) (el ec:Nat) (pa:Option Addr) (pl pc:Nat) (la:Option Addr) (ll lc:Nat) (ha:Option Addr) (hl hc:Nat) (ta:Option Addr) (tl tc:Nat) (x:Int) (w:World) :
 Calls Tryz.prog 69 #[.agg #[.int .i64 10,.slice ea el ec,.slice pa pl pc,.slice la ll lc,.slice ha hl hc,.slice ta tl tc,.int .i64 x]] w fun e w'=>e=.returned (meantV 10 (.slice ea el ec) (.slice pa pl pc) (.slice la ll lc) (.slice ha hl hc) (.slice ta tl tc) x)/\Below w.heap.size w w':=by
 have HOP:=hide (OpAt.new w 10 (.slice ea el ec) (.slice pa pl pc) (.slice la ll lc) (.slice ha hl hc) (.slice ta tl tc) x)
 obtain ⟨o0,o1,o2,o3,o4,o5,o6⟩:=HOP.out.cells
 have q:=(OpAt.new (w.alloc (.cells #[.int .i64 10,.slice ea el ec,.slice pa pl pc,.slice la ll lc,.slice ha hl hc,.slice ta tl tc,.int .i64 x] 38)) 10 (.slice none 0 0) (.slice pa pl pc) (.slice none 0 0) (.slice none 0 0) (.slice none 0 0) 0).alloc (.cells #[.int .i64 10,.slice none 0 0,.slice pa pl pc,.slice none 0 0,.slice none 0 0,.slice none 0 0,.int .i64 0] 38)
 simp only [World.size_alloc] at q
 obtain ⟨u0,u1,u2,u3,u4,u5,u6⟩:=q.cells
 have HB1:=(Below.refl w.heap.size w).alloc (Nat.le_refl _) (.cells #[.int .i64 10,.slice ea el ec,.slice pa pl pc,.slice la ll lc,.slice ha hl hc,.slice ta tl tc,.int .i64 x] 38)
 have HB2:=hide (HB1.alloc HB1.size (.cells #[.int .i64 10,.slice none 0 0,.slice pa pl pc,.slice none 0 0,.slice none 0 0,.slice none 0 0,.int .i64 0] 38))
 have HB3:=hide (HB2.out.alloc HB2.out.size (.cells #[.int .i64 10,.slice none 0 0,.slice pa pl pc,.slice none 0 0,.slice none 0 0,.slice none 0 0,.int .i64 0] 38))
 have hv:meantV 10 (.slice ea el ec) (.slice pa pl pc) (.slice la ll lc) (.slice ha hl hc) (.slice ta tl tc) x=.agg #[.int .i64 10,.slice none 0 0,.slice pa pl pc,.slice none 0 0,.slice none 0 0,.slice none 0 0,.int .i64 0]:=by simp [meantV,nilV]
 rw [hv]
 clear q HB1 hv
 go_enter Tryz.func69,Tryz.ntmps69
 go_wp2
 all_goals exact bodyPost_ret (v:=.agg #[.int .i64 10,.slice none 0 0,.slice pa pl pc,.slice none 0 0,.slice none 0 0,.slice none 0 0,.int .i64 0]) (by simp [results,Tryz.results69,go_sem,u0,u1,u2,u3,u4,u5,u6]) rfl ⟨rfl,HB3.out⟩
theorem meant_11 (ea:Option Addr) (el ec:Nat) (pa:Option Addr) (pl pc:Nat) (la:Option Addr) (ll lc:Nat) (ha:Option Addr) (hl hc:Nat) (ta:Option Addr) (tl tc:Nat) (x:Int) (w:World) :
 Calls Tryz.prog 69 #[.agg #[.int .i64 11,.slice ea el ec,.slice pa pl pc,.slice la ll lc,.slice ha hl hc,.slice ta tl tc,.int .i64 x]] w fun e w'=>e=.returned (meantV 11 (.slice ea el ec) (.slice pa pl pc) (.slice la ll lc) (.slice ha hl hc) (.slice ta tl tc) x)/\Below w.heap.size w w':=by
 have HOP:=hide (OpAt.new w 11 (.slice ea el ec) (.slice pa pl pc) (.slice la ll lc) (.slice ha hl hc) (.slice ta tl tc) x)
 obtain ⟨o0,o1,o2,o3,o4,o5,o6⟩:=HOP.out.cells
 have q:=(OpAt.new (w.alloc (.cells #[.int .i64 11,.slice ea el ec,.slice pa pl pc,.slice la ll lc,.slice ha hl hc,.slice ta tl tc,.int .i64 x] 38)) 11 (.slice none 0 0) (.slice pa pl pc) (.slice none 0 0) (.slice none 0 0) (.slice none 0 0) 0).alloc (.cells #[.int .i64 11,.slice none 0 0,.slice pa pl pc,.slice none 0 0,.slice none 0 0,.slice none 0 0,.int .i64 0] 38)
 simp only [World.size_alloc] at q
 obtain ⟨u0,u1,u2,u3,u4,u5,u6⟩:=q.cells
 have HB1:=(Below.refl w.heap.size w).alloc (Nat.le_refl _) (.cells #[.int .i64 11,.slice ea el ec,.slice pa pl pc,.slice la ll lc,.slice ha hl hc,.slice ta tl tc,.int .i64 x] 38)
 have HB2:=hide (HB1.alloc HB1.size (.cells #[.int .i64 11,.slice none 0 0,.slice pa pl pc,.slice none 0 0,.slice none 0 0,.slice none 0 0,.int .i64 0] 38))
 have HB3:=hide (HB2.out.alloc HB2.out.size (.cells #[.int .i64 11,.slice none 0 0,.slice pa pl pc,.slice none 0 0,.slice none 0 0,.slice none 0 0,.int .i64 0] 38))
 have hv:meantV 11 (.slice ea el ec) (.slice pa pl pc) (.slice la ll lc) (.slice ha hl hc) (.slice ta tl tc) x=.agg #[.int .i64 11,.slice none 0 0,.slice pa pl pc,.slice none 0 0,.slice none 0 0,.slice none 0 0,.int .i64 0]:=by simp [meantV,nilV]
 rw [hv]
 clear q HB1 hv
 go_enter Tryz.func69,Tryz.ntmps69
 go_wp2
 all_goals exact bodyPost_ret (v:=.agg #[.int .i64 11,.slice none 0 0,.slice pa pl pc,.slice none 0 0,.slice none 0 0,.slice none 0 0,.int .i64 0]) (by simp [results,Tryz.results69,go_sem,u0,u1,u2,u3,u4,u5,u6]) rfl ⟨rfl,HB3.out⟩
theorem meant_12 (ea:Option Addr) (el ec:Nat) (pa:Option Addr) (pl pc:Nat) (la:Option Addr) (ll lc:Nat) (ha:Option Addr) (hl hc:Nat) (ta:Option Addr) (tl tc:Nat) (x:Int) (w:World) :
 Calls Tryz.prog 69 #[.agg #[.int .i64 12,.slice ea el ec,.slice pa pl pc,.slice la ll lc,.slice ha hl hc,.slice ta tl tc,.int .i64 x]] w fun e w'=>e=.returned (meantV 12 (.slice ea el ec) (.slice pa pl pc) (.slice la ll lc) (.slice ha hl hc) (.slice ta tl tc) x)/\Below w.heap.size w w':=by
 have HOP:=hide (OpAt.new w 12 (.slice ea el ec) (.slice pa pl pc) (.slice la ll lc) (.slice ha hl hc) (.slice ta tl tc) x)
 obtain ⟨o0,o1,o2,o3,o4,o5,o6⟩:=HOP.out.cells
 have q:=(OpAt.new (w.alloc (.cells #[.int .i64 12,.slice ea el ec,.slice pa pl pc,.slice la ll lc,.slice ha hl hc,.slice ta tl tc,.int .i64 x] 38)) 12 (.slice ea el ec) (.slice none 0 0) (.slice none 0 0) (.slice none 0 0) (.slice none 0 0) 0).alloc (.cells #[.int .i64 12,.slice ea el ec,.slice none 0 0,.slice none 0 0,.slice none 0 0,.slice none 0 0,.int .i64 0] 38)
 simp only [World.size_alloc] at q
 obtain ⟨u0,u1,u2,u3,u4,u5,u6⟩:=q.cells
 have HB1:=(Below.refl w.heap.size w).alloc (Nat.le_refl _) (.cells #[.int .i64 12,.slice ea el ec,.slice pa pl pc,.slice la ll lc,.slice ha hl hc,.slice ta tl tc,.int .i64 x] 38)
 have HB2:=hide (HB1.alloc HB1.size (.cells #[.int .i64 12,.slice ea el ec,.slice none 0 0,.slice none 0 0,.slice none 0 0,.slice none 0 0,.int .i64 0] 38))
 have HB3:=hide (HB2.out.alloc HB2.out.size (.cells #[.int .i64 12,.slice ea el ec,.slice none 0 0,.slice none 0 0,.slice none 0 0,.slice none 0 0,.int .i64 0] 38))
 have hv:meantV 12 (.slice ea el ec) (.slice pa pl pc) (.slice la ll lc) (.slice ha hl hc) (.slice ta tl tc) x=.agg #[.int .i64 12,.slice ea el ec,.slice none 0 0,.slice none 0 0,.slice none 0 0,.slice none 0 0,.int .i64 0]:=by simp [meantV,nilV]
 rw [hv]
 clear q HB1 hv
 go_enter Tryz.func69,Tryz.ntmps69
 go_wp2
 all_goals exact bodyPost_ret (v:=.agg #[.int .i64 12,.slice ea el ec,.slice none 0 0,.slice none 0 0,.slice none 0 0,.slice none 0 0,.int .i64 0]) (by simp [results,Tryz.results69,go_sem,u0,u1,u2,u3,u4,u5,u6]) rfl ⟨rfl,HB3.out⟩
theorem meant_13 (ea:Option Addr) (el ec:Nat) (pa:Option Addr) (pl pc:Nat) (la:Option Addr) (ll lc:Nat) (ha:Option Addr) (hl hc:Nat) (ta:Option Addr) (tl tc:Nat) (x:Int) (w:World) :
 Calls Tryz.prog 69 #[.agg #[.int .i64 13,.slice ea el ec,.slice pa pl pc,.slice la ll lc,.slice ha hl hc,.slice ta tl tc,.int .i64 x]] w fun e w'=>e=.returned (meantV 13 (.slice ea el ec) (.slice pa pl pc) (.slice la ll lc) (.slice ha hl hc) (.slice ta tl tc) x)/\Below w.heap.size w w':=by
 have HOP:=hide (OpAt.new w 13 (.slice ea el ec) (.slice pa pl pc) (.slice la ll lc) (.slice ha hl hc) (.slice ta tl tc) x)
 obtain ⟨o0,o1,o2,o3,o4,o5,o6⟩:=HOP.out.cells
 have q:=(OpAt.new (w.alloc (.cells #[.int .i64 13,.slice ea el ec,.slice pa pl pc,.slice la ll lc,.slice ha hl hc,.slice ta tl tc,.int .i64 x] 38)) 13 (.slice none 0 0) (.slice none 0 0) (.slice la ll lc) (.slice ha hl hc) (.slice ta tl tc) 0).alloc (.cells #[.int .i64 13,.slice none 0 0,.slice none 0 0,.slice la ll lc,.slice ha hl hc,.slice ta tl tc,.int .i64 0] 38)
 simp only [World.size_alloc] at q
 obtain ⟨u0,u1,u2,u3,u4,u5,u6⟩:=q.cells
 have HB1:=(Below.refl w.heap.size w).alloc (Nat.le_refl _) (.cells #[.int .i64 13,.slice ea el ec,.slice pa pl pc,.slice la ll lc,.slice ha hl hc,.slice ta tl tc,.int .i64 x] 38)
 have HB2:=hide (HB1.alloc HB1.size (.cells #[.int .i64 13,.slice none 0 0,.slice none 0 0,.slice la ll lc,.slice ha hl hc,.slice ta tl tc,.int .i64 0] 38))
 have HB3:=hide (HB2.out.alloc HB2.out.size (.cells #[.int .i64 13,.slice none 0 0,.slice none 0 0,.slice la ll lc,.slice ha hl hc,.slice ta tl tc,.int .i64 0] 38))
 have hv:meantV 13 (.slice ea el ec) (.slice pa pl pc) (.slice la ll lc) (.slice ha hl hc) (.slice ta tl tc) x=.agg #[.int .i64 13,.slice none 0 0,.slice none 0 0,.slice la ll lc,.slice ha hl hc,.slice ta tl tc,.int .i64 0]:=by simp [meantV,nilV]
 rw [hv]
 clear q HB1 hv
 go_enter Tryz.func69,Tryz.ntmps69
 go_wp2_with fail
 go_region
 all_goals go_wp2
 all_goals exact bodyPost_ret (v:=.agg #[.int .i64 13,.slice none 0 0,.slice none 0 0,.slice la ll lc,.slice ha hl hc,.slice ta tl tc,.int .i64 0]) (by simp [results,Tryz.results69,go_sem,u0,u1,u2,u3,u4,u5,u6]) rfl ⟨rfl,HB3.out.drew⟩
theorem meant_14 (ea:Option Addr) (el ec:Nat) (pa:Option Addr) (pl pc:Nat) (la:Option Addr) (ll lc:Nat) (ha:Option Addr) (hl hc:Nat) (ta:Option Addr) (tl tc:Nat) (x:Int) (w:World) :
 Calls Tryz.prog 69 #[.agg #[.int .i64 14,.slice ea el ec,.slice pa pl pc,.slice la ll lc,.slice ha hl hc,.slice ta tl tc,.int .i64 x]] w fun e w'=>e=.returned (meantV 14 (.slice ea el ec) (.slice pa pl pc) (.slice la ll lc) (.slice ha hl hc) (.slice ta tl tc) x)/\Below w.heap.size w w':=by
 have HOP:=hide (OpAt.new w 14 (.slice ea el ec) (.slice pa pl pc) (.slice la ll lc) (.slice ha hl hc) (.slice ta tl tc) x)
 obtain ⟨o0,o1,o2,o3,o4,o5,o6⟩:=HOP.out.cells
 have q:=(OpAt.new (w.alloc (.cells #[.int .i64 14,.slice ea el ec,.slice pa pl pc,.slice la ll lc,.slice ha hl hc,.slice ta tl tc,.int .i64 x] 38)) 14 (.slice none 0 0) (.slice none 0 0) (.slice la ll lc) (.slice ha hl hc) (.slice ta tl tc) 0).alloc (.cells #[.int .i64 14,.slice none 0 0,.slice none 0 0,.slice la ll lc,.slice ha hl hc,.slice ta tl tc,.int .i64 0] 38)
 simp only [World.size_alloc] at q
 obtain ⟨u0,u1,u2,u3,u4,u5,u6⟩:=q.cells
 have HB1:=(Below.refl w.heap.size w).alloc (Nat.le_refl _) (.cells #[.int .i64 14,.slice ea el ec,.slice pa pl pc,.slice la ll lc,.slice ha hl hc,.slice ta tl tc,.int .i64 x] 38)
 have HB2:=hide (HB1.alloc HB1.size (.cells #[.int .i64 14,.slice none 0 0,.slice none 0 0,.slice la ll lc,.slice ha hl hc,.slice ta tl tc,.int .i64 0] 38))
 have HB3:=hide (HB2.out.alloc HB2.out.size (.cells #[.int .i64 14,.slice none 0 0,.slice none 0 0,.slice la ll lc,.slice ha hl hc,.slice ta tl tc,.int .i64 0] 38))
 have hv:meantV 14 (.slice ea el ec) (.slice pa pl pc) (.slice la ll lc) (.slice ha hl hc) (.slice ta tl tc) x=.agg #[.int .i64 14,.slice none 0 0,.slice none 0 0,.slice la ll lc,.slice ha hl hc,.slice ta tl tc,.int .i64 0]:=by simp [meantV,nilV]
 rw [hv]
 clear q HB1 hv
 go_enter Tryz.func69,Tryz.ntmps69
 go_wp2_with fail
 go_region
 all_goals go_wp2
 all_goals exact bodyPost_ret (v:=.agg #[.int .i64 14,.slice none 0 0,.slice none 0 0,.slice la ll lc,.slice ha hl hc,.slice ta tl tc,.int .i64 0]) (by simp [results,Tryz.results69,go_sem,u0,u1,u2,u3,u4,u5,u6]) rfl ⟨rfl,HB3.out.drew⟩
theorem meant_15 (ea:Option Addr) (el ec:Nat) (pa:Option Addr) (pl pc:Nat) (la:Option Addr) (ll lc:Nat) (ha:Option Addr) (hl hc:Nat) (ta:Option Addr) (tl tc:Nat) (x:Int) (w:World) :
 Calls Tryz.prog 69 #[.agg #[.int .i64 15,.slice ea el ec,.slice pa pl pc,.slice la ll lc,.slice ha hl hc,.slice ta tl tc,.int .i64 x]] w fun e w'=>e=.returned (meantV 15 (.slice ea el ec) (.slice pa pl pc) (.slice la ll lc) (.slice ha hl hc) (.slice ta tl tc) x)/\Below w.heap.size w w':=by
 have HOP:=hide (OpAt.new w 15 (.slice ea el ec) (.slice pa pl pc) (.slice la ll lc) (.slice ha hl hc) (.slice ta tl tc) x)
 obtain ⟨o0,o1,o2,o3,o4,o5,o6⟩:=HOP.out.cells
 have q:=(OpAt.new (w.alloc (.cells #[.int .i64 15,.slice ea el ec,.slice pa pl pc,.slice la ll lc,.slice ha hl hc,.slice ta tl tc,.int .i64 x] 38)) 15 (.slice none 0 0) (.slice pa pl pc) (.slice none 0 0) (.slice none 0 0) (.slice none 0 0) 0).alloc (.cells #[.int .i64 15,.slice none 0 0,.slice pa pl pc,.slice none 0 0,.slice none 0 0,.slice none 0 0,.int .i64 0] 38)
 simp only [World.size_alloc] at q
 obtain ⟨u0,u1,u2,u3,u4,u5,u6⟩:=q.cells
 have HB1:=(Below.refl w.heap.size w).alloc (Nat.le_refl _) (.cells #[.int .i64 15,.slice ea el ec,.slice pa pl pc,.slice la ll lc,.slice ha hl hc,.slice ta tl tc,.int .i64 x] 38)
 have HB2:=hide (HB1.alloc HB1.size (.cells #[.int .i64 15,.slice none 0 0,.slice pa pl pc,.slice none 0 0,.slice none 0 0,.slice none 0 0,.int .i64 0] 38))
 have HB3:=hide (HB2.out.alloc HB2.out.size (.cells #[.int .i64 15,.slice none 0 0,.slice pa pl pc,.slice none 0 0,.slice none 0 0,.slice none 0 0,.int .i64 0] 38))
 have hv:meantV 15 (.slice ea el ec) (.slice pa pl pc) (.slice la ll lc) (.slice ha hl hc) (.slice ta tl tc) x=.agg #[.int .i64 15,.slice none 0 0,.slice pa pl pc,.slice none 0 0,.slice none 0 0,.slice none 0 0,.int .i64 0]:=by simp [meantV,nilV]
 rw [hv]
 clear q HB1 hv
 go_enter Tryz.func69,Tryz.ntmps69
 go_wp2
 all_goals exact bodyPost_ret (v:=.agg #[.int .i64 15,.slice none 0 0,.slice pa pl pc,.slice none 0 0,.slice none 0 0,.slice none 0 0,.int .i64 0]) (by simp [results,Tryz.results69,go_sem,u0,u1,u2,u3,u4,u5,u6]) rfl ⟨rfl,HB3.out⟩
theorem meant_16 (ea:Option Addr) (el ec:Nat) (pa:Option Addr) (pl pc:Nat) (la:Option Addr) (ll lc:Nat) (ha:Option Addr) (hl hc:Nat) (ta:Option Addr) (tl tc:Nat) (x:Int) (w:World) :
 Calls Tryz.prog 69 #[.agg #[.int .i64 16,.slice ea el ec,.slice pa pl pc,.slice la ll lc,.slice ha hl hc,.slice ta tl tc,.int .i64 x]] w fun e w'=>e=.returned (meantV 16 (.slice ea el ec) (.slice pa pl pc) (.slice la ll lc) (.slice ha hl hc) (.slice ta tl tc) x)/\Below w.heap.size w w':=by
 have HOP:=hide (OpAt.new w 16 (.slice ea el ec) (.slice pa pl pc) (.slice la ll lc) (.slice ha hl hc) (.slice ta tl tc) x)
 obtain ⟨o0,o1,o2,o3,o4,o5,o6⟩:=HOP.out.cells
 have q:=(OpAt.new (w.alloc (.cells #[.int .i64 16,.slice ea el ec,.slice pa pl pc,.slice la ll lc,.slice ha hl hc,.slice ta tl tc,.int .i64 x] 38)) 16 (.slice none 0 0) (.slice pa pl pc) (.slice la ll lc) (.slice ha hl hc) (.slice ta tl tc) 0).alloc (.cells #[.int .i64 16,.slice none 0 0,.slice pa pl pc,.slice la ll lc,.slice ha hl hc,.slice ta tl tc,.int .i64 0] 38)
 simp only [World.size_alloc] at q
 obtain ⟨u0,u1,u2,u3,u4,u5,u6⟩:=q.cells
 have HB1:=(Below.refl w.heap.size w).alloc (Nat.le_refl _) (.cells #[.int .i64 16,.slice ea el ec,.slice pa pl pc,.slice la ll lc,.slice ha hl hc,.slice ta tl tc,.int .i64 x] 38)
 have HB2:=hide (HB1.alloc HB1.size (.cells #[.int .i64 16,.slice none 0 0,.slice pa pl pc,.slice la ll lc,.slice ha hl hc,.slice ta tl tc,.int .i64 0] 38))
 have HB3:=hide (HB2.out.alloc HB2.out.size (.cells #[.int .i64 16,.slice none 0 0,.slice pa pl pc,.slice la ll lc,.slice ha hl hc,.slice ta tl tc,.int .i64 0] 38))
 have hv:meantV 16 (.slice ea el ec) (.slice pa pl pc) (.slice la ll lc) (.slice ha hl hc) (.slice ta tl tc) x=.agg #[.int .i64 16,.slice none 0 0,.slice pa pl pc,.slice la ll lc,.slice ha hl hc,.slice ta tl tc,.int .i64 0]:=by simp [meantV,nilV]
 rw [hv]
 clear q HB1 hv
 go_enter Tryz.func69,Tryz.ntmps69
 go_wp2_with fail
 go_region
 all_goals go_wp2
 all_goals exact bodyPost_ret (v:=.agg #[.int .i64 16,.slice none 0 0,.slice pa pl pc,.slice la ll lc,.slice ha hl hc,.slice ta tl tc,.int .i64 0]) (by simp [results,Tryz.results69,go_sem,u0,u1,u2,u3,u4,u5,u6]) rfl ⟨rfl,HB3.out.drew⟩
theorem meant_17 (ea:Option Addr) (el ec:Nat) (pa:Option Addr) (pl pc:Nat) (la:Option Addr) (ll lc:Nat) (ha:Option Addr) (hl hc:Nat) (ta:Option Addr) (tl tc:Nat) (x:Int) (w:World) :
 Calls Tryz.prog 69 #[.agg #[.int .i64 17,.slice ea el ec,.slice pa pl pc,.slice la ll lc,.slice ha hl hc,.slice ta tl tc,.int .i64 x]] w fun e w'=>e=.returned (meantV 17 (.slice ea el ec) (.slice pa pl pc) (.slice la ll lc) (.slice ha hl hc) (.slice ta tl tc) x)/\Below w.heap.size w w':=by
 have HOP:=hide (OpAt.new w 17 (.slice ea el ec) (.slice pa pl pc) (.slice la ll lc) (.slice ha hl hc) (.slice ta tl tc) x)
 obtain ⟨o0,o1,o2,o3,o4,o5,o6⟩:=HOP.out.cells
 have q:=(OpAt.new (w.alloc (.cells #[.int .i64 17,.slice ea el ec,.slice pa pl pc,.slice la ll lc,.slice ha hl hc,.slice ta tl tc,.int .i64 x] 38)) 17 (.slice none 0 0) (.slice pa pl pc) (.slice none 0 0) (.slice none 0 0) (.slice none 0 0) 0).alloc (.cells #[.int .i64 17,.slice none 0 0,.slice pa pl pc,.slice none 0 0,.slice none 0 0,.slice none 0 0,.int .i64 0] 38)
 simp only [World.size_alloc] at q
 obtain ⟨u0,u1,u2,u3,u4,u5,u6⟩:=q.cells
 have HB1:=(Below.refl w.heap.size w).alloc (Nat.le_refl _) (.cells #[.int .i64 17,.slice ea el ec,.slice pa pl pc,.slice la ll lc,.slice ha hl hc,.slice ta tl tc,.int .i64 x] 38)
 have HB2:=hide (HB1.alloc HB1.size (.cells #[.int .i64 17,.slice none 0 0,.slice pa pl pc,.slice none 0 0,.slice none 0 0,.slice none 0 0,.int .i64 0] 38))
 have HB3:=hide (HB2.out.alloc HB2.out.size (.cells #[.int .i64 17,.slice none 0 0,.slice pa pl pc,.slice none 0 0,.slice none 0 0,.slice none 0 0,.int .i64 0] 38))
 have hv:meantV 17 (.slice ea el ec) (.slice pa pl pc) (.slice la ll lc) (.slice ha hl hc) (.slice ta tl tc) x=.agg #[.int .i64 17,.slice none 0 0,.slice pa pl pc,.slice none 0 0,.slice none 0 0,.slice none 0 0,.int .i64 0]:=by simp [meantV,nilV]
 rw [hv]
 clear q HB1 hv
 go_enter Tryz.func69,Tryz.ntmps69
 go_wp2
 all_goals exact bodyPost_ret (v:=.agg #[.int .i64 17,.slice none 0 0,.slice pa pl pc,.slice none 0 0,.slice none 0 0,.slice none 0 0,.int .i64 0]) (by simp [results,Tryz.results69,go_sem,u0,u1,u2,u3,u4,u5,u6]) rfl ⟨rfl,HB3.out⟩
theorem meant_19 (ea:Option Addr) (el ec:Nat) (pa:Option Addr) (pl pc:Nat) (la:Option Addr) (ll lc:Nat) (ha:Option Addr) (hl hc:Nat) (ta:Option Addr) (tl tc:Nat) (x:Int) (w:World) :
 Calls Tryz.prog 69 #[.agg #[.int .i64 19,.slice ea el ec,.slice pa pl pc,.slice la ll lc,.slice ha hl hc,.slice ta tl tc,.int .i64 x]] w fun e w'=>e=.returned (meantV 19 (.slice ea el ec) (.slice pa pl pc) (.slice la ll lc) (.slice ha hl hc) (.slice ta tl tc) x)/\Below w.heap.size w w':=by
 have HOP:=hide (OpAt.new w 19 (.slice ea el ec) (.slice pa pl pc) (.slice la ll lc) (.slice ha hl hc) (.slice ta tl tc) x)
 obtain ⟨o0,o1,o2,o3,o4,o5,o6⟩:=HOP.out.cells
 have q:=(OpAt.new (w.alloc (.cells #[.int .i64 19,.slice ea el ec,.slice pa pl pc,.slice la ll lc,.slice ha hl hc,.slice ta tl tc,.int .i64 x] 38)) 19 (.slice ea el ec) (.slice none 0 0) (.slice none 0 0) (.slice none 0 0) (.slice none 0 0) 0).alloc (.cells #[.int .i64 19,.slice ea el ec,.slice none 0 0,.slice none 0 0,.slice none 0 0,.slice none 0 0,.int .i64 0] 38)
 simp only [World.size_alloc] at q
 obtain ⟨u0,u1,u2,u3,u4,u5,u6⟩:=q.cells
 have HB1:=(Below.refl w.heap.size w).alloc (Nat.le_refl _) (.cells #[.int .i64 19,.slice ea el ec,.slice pa pl pc,.slice la ll lc,.slice ha hl hc,.slice ta tl tc,.int .i64 x] 38)
 have HB2:=hide (HB1.alloc HB1.size (.cells #[.int .i64 19,.slice ea el ec,.slice none 0 0,.slice none 0 0,.slice none 0 0,.slice none 0 0,.int .i64 0] 38))
 have HB3:=hide (HB2.out.alloc HB2.out.size (.cells #[.int .i64 19,.slice ea el ec,.slice none 0 0,.slice none 0 0,.slice none 0 0,.slice none 0 0,.int .i64 0] 38))
 have hv:meantV 19 (.slice ea el ec) (.slice pa pl pc) (.slice la ll lc) (.slice ha hl hc) (.slice ta tl tc) x=.agg #[.int .i64 19,.slice ea el ec,.slice none 0 0,.slice none 0 0,.slice none 0 0,.slice none 0 0,.int .i64 0]:=by simp [meantV,nilV]
 rw [hv]
 clear q HB1 hv
 go_enter Tryz.func69,Tryz.ntmps69
 go_wp2
 all_goals exact bodyPost_ret (v:=.agg #[.int .i64 19,.slice ea el ec,.slice none 0 0,.slice none 0 0,.slice none 0 0,.slice none 0 0,.int .i64 0]) (by simp [results,Tryz.results69,go_sem,u0,u1,u2,u3,u4,u5,u6]) rfl ⟨rfl,HB3.out⟩
theorem meant_other (k:Int) (ea:Option Addr) (el ec:Nat) (pa:Option Addr) (pl pc:Nat) (la:Option Addr) (ll lc:Nat) (ha:Option Addr) (hl hc:Nat) (ta:Option Addr) (tl tc:Nat) (x:Int) (w:World) (hk:k≠1/\k≠2/\k≠9/\k≠10/\k≠11/\k≠12/\k≠13/\k≠14/\k≠15/\k≠16/\k≠17/\k≠19) :
 Calls Tryz.prog 69 #[.agg #[.int .i64 k,.slice ea el ec,.slice pa pl pc,.slice la ll lc,.slice ha hl hc,.slice ta tl tc,.int .i64 x]] w fun e w'=>e=.returned (meantV k (.slice ea el ec) (.slice pa pl pc) (.slice la ll lc) (.slice ha hl hc) (.slice ta tl tc) x)/\Below w.heap.size w w':=by
 have HOP:=hide (OpAt.new w k (.slice ea el ec) (.slice pa pl pc) (.slice la ll lc) (.slice ha hl hc) (.slice ta tl tc) x)
 obtain ⟨o0,o1,o2,o3,o4,o5,o6⟩:=HOP.out.cells
 have q:=(OpAt.new (w.alloc (.cells #[.int .i64 k,.slice ea el ec,.slice pa pl pc,.slice la ll lc,.slice ha hl hc,.slice ta tl tc,.int .i64 x] 38)) k (.slice none 0 0) (.slice none 0 0) (.slice none 0 0) (.slice none 0 0) (.slice none 0 0) 0).alloc (.cells #[.int .i64 k,.slice none 0 0,.slice none 0 0,.slice none 0 0,.slice none 0 0,.slice none 0 0,.int .i64 0] 38)
 simp only [World.size_alloc] at q
 obtain ⟨u0,u1,u2,u3,u4,u5,u6⟩:=q.cells
 have HB1:=(Below.refl w.heap.size w).alloc (Nat.le_refl _) (.cells #[.int .i64 k,.slice ea el ec,.slice pa pl pc,.slice la ll lc,.slice ha hl hc,.slice ta tl tc,.int .i64 x] 38)
 have HB2:=hide (HB1.alloc HB1.size (.cells #[.int .i64 k,.slice none 0 0,.slice none 0 0,.slice none 0 0,.slice none 0 0,.slice none 0 0,.int .i64 0] 38))
 have HB3:=hide (HB2.out.alloc HB2.out.size (.cells #[.int .i64 k,.slice none 0 0,.slice none 0 0,.slice none 0 0,.slice none 0 0,.slice none 0 0,.int .i64 0] 38))
 have hv:meantV k (.slice ea el ec) (.slice pa pl pc) (.slice la ll lc) (.slice ha hl hc) (.slice ta tl tc) x=.agg #[.int .i64 k,.slice none 0 0,.slice none 0 0,.slice none 0 0,.slice none 0 0,.slice none 0 0,.int .i64 0]:=by unfold meantV nilV;rw [if_neg (by omega),if_neg (by omega),if_neg (by omega),if_neg (by omega),if_neg (by omega),if_neg (by omega)]
 rw [hv]
 clear q HB1 hv
 have c1:(k == 1)=false:=by simp;omega
 have c2:(k == 2)=false:=by simp;omega
 have c9:(k == 9)=false:=by simp;omega
 have c10:(k == 10)=false:=by simp;omega
 have c11:(k == 11)=false:=by simp;omega
 have c12:(k == 12)=false:=by simp;omega
 have c13:(k == 13)=false:=by simp;omega
 have c14:(k == 14)=false:=by simp;omega
 have c15:(k == 15)=false:=by simp;omega
 have c16:(k == 16)=false:=by simp;omega
 have c17:(k == 17)=false:=by simp;omega
 have c19:(k == 19)=false:=by simp;omega
 clear hk
 go_enter Tryz.func69,Tryz.ntmps69
 go_wp2
 all_goals exact bodyPost_ret (v:=.agg #[.int .i64 k,.slice none 0 0,.slice none 0 0,.slice none 0 0,.slice none 0 0,.slice none 0 0,.int .i64 0]) (by simp [results,Tryz.results69,go_sem,u0,u1,u2,u3,u4,u5,u6]) rfl ⟨rfl,HB3.out⟩
theorem meant_any (k:Int) (ea:Option Addr) (el ec:Nat) (pa:Option Addr) (pl pc:Nat) (la:Option Addr) (ll lc:Nat) (ha:Option Addr) (hl hc:Nat) (ta:Option Addr) (tl tc:Nat) (x:Int) (w:World) :
 Calls Tryz.prog 69 #[.agg #[.int .i64 k,.slice ea el ec,.slice pa pl pc,.slice la ll lc,.slice ha hl hc,.slice ta tl tc,.int .i64 x]] w fun e w'=>e=.returned (meantV k (.slice ea el ec) (.slice pa pl pc) (.slice la ll lc) (.slice ha hl hc) (.slice ta tl tc) x)/\Below w.heap.size w w':=by
 by_cases hk:k≠1/\k≠2/\k≠9/\k≠10/\k≠11/\k≠12/\k≠13/\k≠14/\k≠15/\k≠16/\k≠17/\k≠19
 · exact meant_other k ea el ec pa pl pc la ll lc ha hl hc ta tl tc x w hk
 · have h:k=1\/k=2\/k=9\/k=10\/k=11\/k=12\/k=13\/k=14\/k=15\/k=16\/k=17\/k=19:=by omega
   rcases h with rfl | rfl | rfl | rfl | rfl | rfl | rfl | rfl | rfl | rfl | rfl | rfl
   · exact meant_1 ea el ec pa pl pc la ll lc ha hl hc ta tl tc x w
   · exact meant_2 ea el ec pa pl pc la ll lc ha hl hc ta tl tc x w
   · exact meant_9 ea el ec pa pl pc la ll lc ha hl hc ta tl tc x w
   · exact meant_10 ea el ec pa pl pc la ll lc ha hl hc ta tl tc x w
   · exact meant_11 ea el ec pa pl pc la ll lc ha hl hc ta tl tc x w
   · exact meant_12 ea el ec pa pl pc la ll lc ha hl hc ta tl tc x w
   · exact meant_13 ea el ec pa pl pc la ll lc ha hl hc ta tl tc x w
   · exact meant_14 ea el ec pa pl pc la ll lc ha hl hc ta tl tc x w
   · exact meant_15 ea el ec pa pl pc la ll lc ha hl hc ta tl tc x w
   · exact meant_16 ea el ec pa pl pc la ll lc ha hl hc ta tl tc x w
   · exact meant_17 ea el ec pa pl pc la ll lc ha hl hc ta tl tc x w
   · exact meant_19 ea el ec pa pl pc la ll lc ha hl hc ta tl tc x w
theorem rplain_1 (ea:Option Addr) (el ec:Nat) (pa:Option Addr) (pl pc:Nat) (la:Option Addr) (ll lc:Nat) (ha:Option Addr) (hl hc:Nat) (ta:Option Addr) (tl tc:Nat) (x:Int) (w:World) :
 Calls Tryz.prog 30 #[.agg #[.int .i64 1,.slice ea el ec,.slice pa pl pc,.slice la ll lc,.slice ha hl hc,.slice ta tl tc,.int .i64 x]] w fun e w'=>e=.returned (meantV 1 (.slice ea el ec) (.slice pa pl pc) (.slice la ll lc) (.slice ha hl hc) (.slice ta tl tc) x)/\Below w.heap.size w w':=by
 have HOP:=hide (OpAt.new w 1 (.slice ea el ec) (.slice pa pl pc) (.slice la ll lc) (.slice ha hl hc) (.slice ta tl tc) x)
 obtain ⟨o0,o1,o2,o3,o4,o5,o6⟩:=HOP.out.cells
 have q:=(OpAt.new (w.alloc (.cells #[.int .i64 1,.slice ea el ec,.slice pa pl pc,.slice la ll lc,.slice ha hl hc,.slice ta tl tc,.int .i64 x] 38)) 1 (.slice ea el ec) (.slice pa pl pc) (.slice none 0 0) (.slice none 0 0) (.slice none 0 0) 0).alloc (.cells #[.int .i64 1,.slice ea el ec,.slice pa pl pc,.slice none 0 0,.slice none 0 0,.slice none 0 0,.int .i64 0] 38)
 simp only [World.size_alloc] at q
 obtain ⟨u0,u1,u2,u3,u4,u5,u6⟩:=q.cells
 have HB1:=(Below.refl w.heap.size w).alloc (Nat.le_refl _) (.cells #[.int .i64 1,.slice ea el ec,.slice pa pl pc,.slice la ll lc,.slice ha hl hc,.slice ta tl tc,.int .i64 x] 38)
 have HB2:=hide (HB1.alloc HB1.size (.cells #[.int .i64 1,.slice ea el ec,.slice pa pl pc,.slice none 0 0,.slice none 0 0,.slice none 0 0,.int .i64 0] 38))
 have HB3:=hide (HB2.out.alloc HB2.out.size (.cells #[.int .i64 1,.slice ea el ec,.slice pa pl pc,.slice none 0 0,.slice none 0 0,.slice none 0 0,.int .i64 0] 38))
 have hv:meantV 1 (.slice ea el ec) (.slice pa pl pc) (.slice la ll lc) (.slice ha hl hc) (.slice ta tl tc) x=.agg #[.int .i64 1,.slice ea el ec,.slice pa pl pc,.slice none 0 0,.slice none 0 0,.slice none 0 0,.int .i64 0]:=by simp [meantV,nilV]
 rw [hv]
 clear q HB1 hv
 go_enter Tryz.func30,Tryz.ntmps30
 go_wp2
 all_goals exact bodyPost_ret (v:=.agg #[.int .i64 1,.slice ea el ec,.slice pa pl pc,.slice none 0 0,.slice none 0 0,.slice none 0 0,.int .i64 0]) (by simp [results,Tryz.results30,go_sem,u0,u1,u2,u3,u4,u5,u6]) rfl ⟨rfl,HB3.out⟩
theorem rplain_2 (ea:Option Addr) (el ec:Nat) (pa:Option Addr) (pl pc:Nat) (la:Option Addr) (ll lc:Nat) (ha:Option Addr) (hl hc:Nat) (ta:Option Addr) (tl tc:Nat) (x:Int) (w:World) :
 Calls Tryz.prog 30 #[.agg #[.int .i64 2,.slice ea el ec,.slice pa pl pc,.slice la ll lc,.slice ha hl hc,.slice ta tl tc,.int .i64 x]] w fun e w'=>e=.returned (meantV 2 (.slice ea el ec) (.slice pa pl pc) (.slice la ll lc) (.slice ha hl hc) (.slice ta tl tc) x)/\Below w.heap.size w w':=by
 have HOP:=hide (OpAt.new w 2 (.slice ea el ec) (.slice pa pl pc) (.slice la ll lc) (.slice ha hl hc) (.slice ta tl tc) x)
 obtain ⟨o0,o1,o2,o3,o4,o5,o6⟩:=HOP.out.cells
 have q:=(OpAt.new (w.alloc (.cells #[.int .i64 2,.slice ea el ec,.slice pa pl pc,.slice la ll lc,.slice ha hl hc,.slice ta tl tc,.int .i64 x] 38)) 2 (.slice ea el ec) (.slice none 0 0) (.slice none 0 0) (.slice none 0 0) (.slice none 0 0) x).alloc (.cells #[.int .i64 2,.slice ea el ec,.slice none 0 0,.slice none 0 0,.slice none 0 0,.slice none 0 0,.int .i64 x] 38)
 simp only [World.size_alloc] at q
 obtain ⟨u0,u1,u2,u3,u4,u5,u6⟩:=q.cells
 have HB1:=(Below.refl w.heap.size w).alloc (Nat.le_refl _) (.cells #[.int .i64 2,.slice ea el ec,.slice pa pl pc,.slice la ll lc,.slice ha hl hc,.slice ta tl tc,.int .i64 x] 38)
 have HB2:=hide (HB1.alloc HB1.size (.cells #[.int .i64 2,.slice ea el ec,.slice none 0 0,.slice none 0 0,.slice none 0 0,.slice none 0 0,.int .i64 x] 38))
 have HB3:=hide (HB2.out.alloc HB2.out.size (.cells #[.int .i64 2,.slice ea el ec,.slice none 0 0,.slice none 0 0,.slice none 0 0,.slice none 0 0,.int .i64 x] 38))
 have hv:meantV 2 (.slice ea el ec) (.slice pa pl pc) (.slice la ll lc) (.slice ha hl hc) (.slice ta tl tc) x=.agg #[.int .i64 2,.slice ea el ec,.slice none 0 0,.slice none 0 0,.slice none 0 0,.slice none 0 0,.int .i64 x]:=by simp [meantV,nilV]
 rw [hv]
 clear q HB1 hv
 go_enter Tryz.func30,Tryz.ntmps30
 go_wp2
 all_goals exact bodyPost_ret (v:=.agg #[.int .i64 2,.slice ea el ec,.slice none 0 0,.slice none 0 0,.slice none 0 0,.slice none 0 0,.int .i64 x]) (by simp [results,Tryz.results30,go_sem,u0,u1,u2,u3,u4,u5,u6]) rfl ⟨rfl,HB3.out⟩
theorem rplain_9 (ea:Option Addr) (el ec:Nat) (pa:Option Addr) (pl pc:Nat) (la:Option Addr) (ll lc:Nat) (ha:Option Addr) (hl hc:Nat) (ta:Option Addr) (tl tc:Nat) (x:Int) (w:World) :
 Calls Tryz.prog 30 #[.agg #[.int .i64 9,.slice ea el ec,.slice pa pl pc,.slice la ll lc,.slice ha hl hc,.slice ta tl tc,.int .i64 x]] w fun e w'=>e=.returned (meantV 9 (.slice ea el ec) (.slice pa pl pc) (.slice la ll lc) (.slice ha hl hc) (.slice ta tl tc) x)/\Below w.heap.size w w':=by
 have HOP:=hide (OpAt.new w 9 (.slice ea el ec) (.slice pa pl pc) (.slice la ll lc) (.slice ha hl hc) (.slice ta tl tc) x)
 obtain ⟨o0,o1,o2,o3,o4,o5,o6⟩:=HOP.out.cells
 have q:=(OpAt.new (w.alloc (.cells #[.int .i64 9,.slice ea el ec,.slice pa pl pc,.slice la ll lc,.slice ha hl hc,.slice ta tl tc,.int .i64 x] 38)) 9 (.slice ea el ec) (.slice pa pl pc) (.slice none 0 0) (.slice none 0 0) (.slice none 0 0) 0).alloc (.cells #[.int .i64 9,.slice ea el ec,.slice pa pl pc,.slice none 0 0,.slice none 0 0,.slice none 0 0,.int .i64 0] 38)
 simp only [World.size_alloc] at q
 obtain ⟨u0,u1,u2,u3,u4,u5,u6⟩:=q.cells
 have HB1:=(Below.refl w.heap.size w).alloc (Nat.le_refl _) (.cells #[.int .i64 9,.slice ea el ec,.slice pa pl pc,.slice la ll lc,.slice ha hl hc,.slice ta tl tc,.int .i64 x] 38)
 have HB2:=hide (HB1.alloc HB1.size (.cells #[.int .i64 9,.slice ea el ec,.slice pa pl pc,.slice none 0 0,.slice none 0 0,.slice none 0 0,.int .i64 0] 38))
 have HB3:=hide (HB2.out.alloc HB2.out.size (.cells #[.int .i64 9,.slice ea el ec,.slice pa pl pc,.slice none 0 0,.slice none 0 0,.slice none 0 0,.int .i64 0] 38))
 have hv:meantV 9 (.slice ea el ec) (.slice pa pl pc) (.slice la ll lc) (.slice ha hl hc) (.slice ta tl tc) x=.agg #[.int .i64 9,.slice ea el ec,.slice pa pl pc,.slice none 0 0,.slice none 0 0,.slice none 0 0,.int .i64 0]:=by simp [meantV,nilV]
 rw [hv]
 clear q HB1 hv
 go_enter Tryz.func30,Tryz.ntmps30
 go_wp2
 all_goals exact bodyPost_ret (v:=.agg #[.int .i64 9,.slice ea el ec,.slice pa pl pc,.slice none 0 0,.slice none 0 0,.slice none 0 0,.int .i64 0]) (by simp [results,Tryz.results30,go_sem,u0,u1,u2,u3,u4,u5,u6]) rfl ⟨rfl,HB3.out⟩
theorem rplain_10 (ea:Option Addr) (el ec:Nat) (pa:Option Addr) (pl pc:Nat) (la:Option Addr) (ll lc:Nat) (ha:Option Addr) (hl hc:Nat) (ta:Option Addr) (tl tc:Nat) (x:Int) (w:World) :
 Calls Tryz.prog 30 #[.agg #[.int .i64 10,.slice ea el ec,.slice pa pl pc,.slice la ll lc,.slice ha hl hc,.slice ta tl tc,.int .i64 x]] w fun e w'=>e=.returned (meantV 10 (.slice ea el ec) (.slice pa pl pc) (.slice la ll lc) (.slice ha hl hc) (.slice ta tl tc) x)/\Below w.heap.size w w':=by
 have HOP:=hide (OpAt.new w 10 (.slice ea el ec) (.slice pa pl pc) (.slice la ll lc) (.slice ha hl hc) (.slice ta tl tc) x)
 obtain ⟨o0,o1,o2,o3,o4,o5,o6⟩:=HOP.out.cells
 have q:=(OpAt.new (w.alloc (.cells #[.int .i64 10,.slice ea el ec,.slice pa pl pc,.slice la ll lc,.slice ha hl hc,.slice ta tl tc,.int .i64 x] 38)) 10 (.slice none 0 0) (.slice pa pl pc) (.slice none 0 0) (.slice none 0 0) (.slice none 0 0) 0).alloc (.cells #[.int .i64 10,.slice none 0 0,.slice pa pl pc,.slice none 0 0,.slice none 0 0,.slice none 0 0,.int .i64 0] 38)
 simp only [World.size_alloc] at q
 obtain ⟨u0,u1,u2,u3,u4,u5,u6⟩:=q.cells
 have HB1:=(Below.refl w.heap.size w).alloc (Nat.le_refl _) (.cells #[.int .i64 10,.slice ea el ec,.slice pa pl pc,.slice la ll lc,.slice ha hl hc,.slice ta tl tc,.int .i64 x] 38)
 have HB2:=hide (HB1.alloc HB1.size (.cells #[.int .i64 10,.slice none 0 0,.slice pa pl pc,.slice none 0 0,.slice none 0 0,.slice none 0 0,.int .i64 0] 38))
 have HB3:=hide (HB2.out.alloc HB2.out.size (.cells #[.int .i64 10,.slice none 0 0,.slice pa pl pc,.slice none 0 0,.slice none 0 0,.slice none 0 0,.int .i64 0] 38))
 have hv:meantV 10 (.slice ea el ec) (.slice pa pl pc) (.slice la ll lc) (.slice ha hl hc) (.slice ta tl tc) x=.agg #[.int .i64 10,.slice none 0 0,.slice pa pl pc,.slice none 0 0,.slice none 0 0,.slice none 0 0,.int .i64 0]:=by simp [meantV,nilV]
 rw [hv]
 clear q HB1 hv
 go_enter Tryz.func30,Tryz.ntmps30
 go_wp2
 all_goals exact bodyPost_ret (v:=.agg #[.int .i64 10,.slice none 0 0,.slice pa pl pc,.slice none 0 0,.slice none 0 0,.slice none 0 0,.int .i64 0]) (by simp [results,Tryz.results30,go_sem,u0,u1,u2,u3,u4,u5,u6]) rfl ⟨rfl,HB3.out⟩
theorem rplain_11 (ea:Option Addr) (el ec:Nat) (pa:Option Addr) (pl pc:Nat) (la:Option Addr) (ll lc:Nat) (ha:Option Addr) (hl hc:Nat) (ta:Option Addr) (tl tc:Nat) (x:Int) (w:World) :
 Calls Tryz.prog 30 #[.agg #[.int .i64 11,.slice ea el ec,.slice pa pl pc,.slice la ll lc,.slice ha hl hc,.slice ta tl tc,.int .i64 x]] w fun e w'=>e=.returned (meantV 11 (.slice ea el ec) (.slice pa pl pc) (.slice la ll lc) (.slice ha hl hc) (.slice ta tl tc) x)/\Below w.heap.size w w':=by
 have HOP:=hide (OpAt.new w 11 (.slice ea el ec) (.slice pa pl pc) (.slice la ll lc) (.slice ha hl hc) (.slice ta tl tc) x)
 obtain ⟨o0,o1,o2,o3,o4,o5,o6⟩:=HOP.out.cells
 have q:=(OpAt.new (w.alloc (.cells #[.int .i64 11,.slice ea el ec,.slice pa pl pc,.slice la ll lc,.slice ha hl hc,.slice ta tl tc,.int .i64 x] 38)) 11 (.slice none 0 0) (.slice pa pl pc) (.slice none 0 0) (.slice none 0 0) (.slice none 0 0) 0).alloc (.cells #[.int .i64 11,.slice none 0 0,.slice pa pl pc,.slice none 0 0,.slice none 0 0,.slice none 0 0,.int .i64 0] 38)
 simp only [World.size_alloc] at q
 obtain ⟨u0,u1,u2,u3,u4,u5,u6⟩:=q.cells
 have HB1:=(Below.refl w.heap.size w).alloc (Nat.le_refl _) (.cells #[.int .i64 11,.slice ea el ec,.slice pa pl pc,.slice la ll lc,.slice ha hl hc,.slice ta tl tc,.int .i64 x] 38)
 have HB2:=hide (HB1.alloc HB1.size (.cells #[.int .i64 11,.slice none 0 0,.slice pa pl pc,.slice none 0 0,.slice none 0 0,.slice none 0 0,.int .i64 0] 38))
 have HB3:=hide (HB2.out.alloc HB2.out.size (.cells #[.int .i64 11,.slice none 0 0,.slice pa pl pc,.slice none 0 0,.slice none 0 0,.slice none 0 0,.int .i64 0] 38))
 have hv:meantV 11 (.slice ea el ec) (.slice pa pl pc) (.slice la ll lc) (.slice ha hl hc) (.slice ta tl tc) x=.agg #[.int .i64 11,.slice none 0 0,.slice pa pl pc,.slice none 0 0,.slice none 0 0,.slice none 0 0,.int .i64 0]:=by simp [meantV,nilV]
 rw [hv]
 clear q HB1 hv
 go_enter Tryz.func30,Tryz.ntmps30
 go_wp2
 all_goals exact bodyPost_ret (v:=.agg #[.int .i64 11,.slice none 0 0,.slice pa pl pc,.slice none 0 0,.slice none 0 0,.slice none 0 0,.int .i64 0]) (by simp [results,Tryz.results30,go_sem,u0,u1,u2,u3,u4,u5,u6]) rfl ⟨rfl,HB3.out⟩
theorem rplain_12 (ea:Option Addr) (el ec:Nat) (pa:Option Addr) (pl pc:Nat) (la:Option Addr) (ll lc:Nat) (ha:Option Addr) (hl hc:Nat) (ta:Option Addr) (tl tc:Nat) (x:Int) (w:World) :
 Calls Tryz.prog 30 #[.agg #[.int .i64 12,.slice ea el ec,.slice pa pl pc,.slice la ll lc,.slice ha hl hc,.slice ta tl tc,.int .i64 x]] w fun e w'=>e=.returned (meantV 12 (.slice ea el ec) (.slice pa pl pc) (.slice la ll lc) (.slice ha hl hc) (.slice ta tl tc) x)/\Below w.heap.size w w':=by
 have HOP:=hide (OpAt.new w 12 (.slice ea el ec) (.slice pa pl pc) (.slice la ll lc) (.slice ha hl hc) (.slice ta tl tc) x)
 obtain ⟨o0,o1,o2,o3,o4,o5,o6⟩:=HOP.out.cells
 have q:=(OpAt.new (w.alloc (.cells #[.int .i64 12,.slice ea el ec,.slice pa pl pc,.slice la ll lc,.slice ha hl hc,.slice ta tl tc,.int .i64 x] 38)) 12 (.slice ea el ec) (.slice none 0 0) (.slice none 0 0) (.slice none 0 0) (.slice none 0 0) 0).alloc (.cells #[.int .i64 12,.slice ea el ec,.slice none 0 0,.slice none 0 0,.slice none 0 0,.slice none 0 0,.int .i64 0] 38)
 simp only [World.size_alloc] at q
 obtain ⟨u0,u1,u2,u3,u4,u5,u6⟩:=q.cells
 have HB1:=(Below.refl w.heap.size w).alloc (Nat.le_refl _) (.cells #[.int .i64 12,.slice ea el ec,.slice pa pl pc,.slice la ll lc,.slice ha hl hc,.slice ta tl tc,.int .i64 x] 38)
 have HB2:=hide (HB1.alloc HB1.size (.cells #[.int .i64 12,.slice ea el ec,.slice none 0 0,.slice none 0 0,.slice none 0 0,.slice none 0 0,.int .i64 0] 38))
 have HB3:=hide (HB2.out.alloc HB2.out.size (.cells #[.int .i64 12,.slice ea el ec,.slice none 0 0,.slice none 0 0,.slice none 0 0,.slice none 0 0,.int .i64 0] 38))
 have hv:meantV 12 (.slice ea el ec) (.slice pa pl pc) (.slice la ll lc) (.slice ha hl hc) (.slice ta tl tc) x=.agg #[.int .i64 12,.slice ea el ec,.slice none 0 0,.slice none 0 0,.slice none 0 0,.slice none 0 0,.int .i64 0]:=by simp [meantV,nilV]
 rw [hv]
 clear q HB1 hv
 go_enter Tryz.func30,Tryz.ntmps30
 go_wp2
 all_goals exact bodyPost_ret (v:=.agg #[.int .i64 12,.slice ea el ec,.slice none 0 0,.slice none 0 0,.slice none 0 0,.slice none 0 0,.int .i64 0]) (by simp [results,Tryz.results30,go_sem,u0,u1,u2,u3,u4,u5,u6]) rfl ⟨rfl,HB3.out⟩
theorem rplain_13 (ea:Option Addr) (el ec:Nat) (pa:Option Addr) (pl pc:Nat) (la:Option Addr) (ll lc:Nat) (ha:Option Addr) (hl hc:Nat) (ta:Option Addr) (tl tc:Nat) (x:Int) (w:World) :
 Calls Tryz.prog 30 #[.agg #[.int .i64 13,.slice ea el ec,.slice pa pl pc,.slice la ll lc,.slice ha hl hc,.slice ta tl tc,.int .i64 x]] w fun e w'=>e=.returned (meantV 13 (.slice ea el ec) (.slice pa pl pc) (.slice la ll lc) (.slice ha hl hc) (.slice ta tl tc) x)/\Below w.heap.size w w':=by
 have HOP:=hide (OpAt.new w 13 (.slice ea el ec) (.slice pa pl pc) (.slice la ll lc) (.slice ha hl hc) (.slice ta tl tc) x)
 obtain ⟨o0,o1,o2,o3,o4,o5,o6⟩:=HOP.out.cells
 have q:=(OpAt.new (w.alloc (.cells #[.int .i64 13,.slice ea el ec,.slice pa pl pc,.slice la ll lc,.slice ha hl hc,.slice ta tl tc,.int .i64 x] 38)) 13 (.slice none 0 0) (.slice none 0 0) (.slice la ll lc) (.slice ha hl hc) (.slice ta tl tc) 0).alloc (.cells #[.int .i64 13,.slice none 0 0,.slice none 0 0,.slice la ll lc,.slice ha hl hc,.slice ta tl tc,.int .i64 0] 38)
 simp only [World.size_alloc] at q
 obtain ⟨u0,u1,u2,u3,u4,u5,u6⟩:=q.cells
 have HB1:=(Below.refl w.heap.size w).alloc (Nat.le_refl _) (.cells #[.int .i64 13,.slice ea el ec,.slice pa pl pc,.slice la ll lc,.slice ha hl hc,.slice ta tl tc,.int .i64 x] 38)
 have HB2:=hide (HB1.alloc HB1.size (.cells #[.int .i64 13,.slice none 0 0,.slice none 0 0,.slice la ll lc,.slice ha hl hc,.slice ta tl tc,.int .i64 0] 38))
 have HB3:=hide (HB2.out.alloc HB2.out.size (.cells #[.int .i64 13,.slice none 0 0,.slice none 0 0,.slice la ll lc,.slice ha hl hc,.slice ta tl tc,.int .i64 0] 38))
 have hv:meantV 13 (.slice ea el ec) (.slice pa pl pc) (.slice la ll lc) (.slice ha hl hc) (.slice ta tl tc) x=.agg #[.int .i64 13,.slice none 0 0,.slice none 0 0,.slice la ll lc,.slice ha hl hc,.slice ta tl tc,.int .i64 0]:=by simp [meantV,nilV]
 rw [hv]
 clear q HB1 hv
 go_enter Tryz.func30,Tryz.ntmps30
 go_wp2_with fail
 go_region
 all_goals go_wp2
 all_goals exact bodyPost_ret (v:=.agg #[.int .i64 13,.slice none 0 0,.slice none 0 0,.slice la ll lc,.slice ha hl hc,.slice ta tl tc,.int .i64 0]) (by simp [results,Tryz.results30,go_sem,u0,u1,u2,u3,u4,u5,u6]) rfl ⟨rfl,HB3.out.drew⟩
theorem rplain_14 (ea:Option Addr) (el ec:Nat) (pa:Option Addr) (pl pc:Nat) (la:Option Addr) (ll lc:Nat) (ha:Option Addr) (hl hc:Nat) (ta:Option Addr) (tl tc:Nat) (x:Int) (w:World) :
 Calls Tryz.prog 30 #[.agg #[.int .i64 14,.slice ea el ec,.slice pa pl pc,.slice la ll lc,.slice ha hl hc,.slice ta tl tc,.int .i64 x]] w fun e w'=>e=.returned (meantV 14 (.slice ea el ec) (.slice pa pl pc) (.slice la ll lc) (.slice ha hl hc) (.slice ta tl tc) x)/\Below w.heap.size w w':=by
 have HOP:=hide (OpAt.new w 14 (.slice ea el ec) (.slice pa pl pc) (.slice la ll lc) (.slice ha hl hc) (.slice ta tl tc) x)
 obtain ⟨o0,o1,o2,o3,o4,o5,o6⟩:=HOP.out.cells
 have q:=(OpAt.new (w.alloc (.cells #[.int .i64 14,.slice ea el ec,.slice pa pl pc,.slice la ll lc,.slice ha hl hc,.slice ta tl tc,.int .i64 x] 38)) 14 (.slice none 0 0) (.slice none 0 0) (.slice la ll lc) (.slice ha hl hc) (.slice ta tl tc) 0).alloc (.cells #[.int .i64 14,.slice none 0 0,.slice none 0 0,.slice la ll lc,.slice ha hl hc,.slice ta tl tc,.int .i64 0] 38)
 simp only [World.size_alloc] at q
 obtain ⟨u0,u1,u2,u3,u4,u5,u6⟩:=q.cells
 have HB1:=(Below.refl w.heap.size w).alloc (Nat.le_refl _) (.cells #[.int .i64 14,.slice ea el ec,.slice pa pl pc,.slice la ll lc,.slice ha hl hc,.slice ta tl tc,.int .i64 x] 38)
 have HB2:=hide (HB1.alloc HB1.size (.cells #[.int .i64 14,.slice none 0 0,.slice none 0 0,.slice la ll lc,.slice ha hl hc,.slice ta tl tc,.int .i64 0] 38))
 have HB3:=hide (HB2.out.alloc HB2.out.size (.cells #[.int .i64 14,.slice none 0 0,.slice none 0 0,.slice la ll lc,.slice ha hl hc,.slice ta tl tc,.int .i64 0] 38))
 have hv:meantV 14 (.slice ea el ec) (.slice pa pl pc) (.slice la ll lc) (.slice ha hl hc) (.slice ta tl tc) x=.agg #[.int .i64 14,.slice none 0 0,.slice none 0 0,.slice la ll lc,.slice ha hl hc,.slice ta tl tc,.int .i64 0]:=by simp [meantV,nilV]
 rw [hv]
 clear q HB1 hv
 go_enter Tryz.func30,Tryz.ntmps30
 go_wp2_with fail
 go_region
 all_goals go_wp2
 all_goals exact bodyPost_ret (v:=.agg #[.int .i64 14,.slice none 0 0,.slice none 0 0,.slice la ll lc,.slice ha hl hc,.slice ta tl tc,.int .i64 0]) (by simp [results,Tryz.results30,go_sem,u0,u1,u2,u3,u4,u5,u6]) rfl ⟨rfl,HB3.out.drew⟩
theorem rplain_15 (ea:Option Addr) (el ec:Nat) (pa:Option Addr) (pl pc:Nat) (la:Option Addr) (ll lc:Nat) (ha:Option Addr) (hl hc:Nat) (ta:Option Addr) (tl tc:Nat) (x:Int) (w:World) :
 Calls Tryz.prog 30 #[.agg #[.int .i64 15,.slice ea el ec,.slice pa pl pc,.slice la ll lc,.slice ha hl hc,.slice ta tl tc,.int .i64 x]] w fun e w'=>e=.returned (meantV 15 (.slice ea el ec) (.slice pa pl pc) (.slice la ll lc) (.slice ha hl hc) (.slice ta tl tc) x)/\Below w.heap.size w w':=by
 have HOP:=hide (OpAt.new w 15 (.slice ea el ec) (.slice pa pl pc) (.slice la ll lc) (.slice ha hl hc) (.slice ta tl tc) x)
 obtain ⟨o0,o1,o2,o3,o4,o5,o6⟩:=HOP.out.cells
 have q:=(OpAt.new (w.alloc (.cells #[.int .i64 15,.slice ea el ec,.slice pa pl pc,.slice la ll lc,.slice ha hl hc,.slice ta tl tc,.int .i64 x] 38)) 15 (.slice none 0 0) (.slice pa pl pc) (.slice none 0 0) (.slice none 0 0) (.slice none 0 0) 0).alloc (.cells #[.int .i64 15,.slice none 0 0,.slice pa pl pc,.slice none 0 0,.slice none 0 0,.slice none 0 0,.int .i64 0] 38)
 simp only [World.size_alloc] at q
 obtain ⟨u0,u1,u2,u3,u4,u5,u6⟩:=q.cells
 have HB1:=(Below.refl w.heap.size w).alloc (Nat.le_refl _) (.cells #[.int .i64 15,.slice ea el ec,.slice pa pl pc,.slice la ll lc,.slice ha hl hc,.slice ta tl tc,.int .i64 x] 38)
 have HB2:=hide (HB1.alloc HB1.size (.cells #[.int .i64 15,.slice none 0 0,.slice pa pl pc,.slice none 0 0,.slice none 0 0,.slice none 0 0,.int .i64 0] 38))
 have HB3:=hide (HB2.out.alloc HB2.out.size (.cells #[.int .i64 15,.slice none 0 0,.slice pa pl pc,.slice none 0 0,.slice none 0 0,.slice none 0 0,.int .i64 0] 38))
 have hv:meantV 15 (.slice ea el ec) (.slice pa pl pc) (.slice la ll lc) (.slice ha hl hc) (.slice ta tl tc) x=.agg #[.int .i64 15,.slice none 0 0,.slice pa pl pc,.slice none 0 0,.slice none 0 0,.slice none 0 0,.int .i64 0]:=by simp [meantV,nilV]
 rw [hv]
 clear q HB1 hv
 go_enter Tryz.func30,Tryz.ntmps30
 go_wp2
 all_goals exact bodyPost_ret (v:=.agg #[.int .i64 15,.slice none 0 0,.slice pa pl pc,.slice none 0 0,.slice none 0 0,.slice none 0 0,.int .i64 0]) (by simp [results,Tryz.results30,go_sem,u0,u1,u2,u3,u4,u5,u6]) rfl ⟨rfl,HB3.out⟩
theorem rplain_16 (ea:Option Addr) (el ec:Nat) (pa:Option Addr) (pl pc:Nat) (la:Option Addr) (ll lc:Nat) (ha:Option Addr) (hl hc:Nat) (ta:Option Addr) (tl tc:Nat) (x:Int) (w:World) :
 Calls Tryz.prog 30 #[.agg #[.int .i64 16,.slice ea el ec,.slice pa pl pc,.slice la ll lc,.slice ha hl hc,.slice ta tl tc,.int .i64 x]] w fun e w'=>e=.returned (meantV 16 (.slice ea el ec) (.slice pa pl pc) (.slice la ll lc) (.slice ha hl hc) (.slice ta tl tc) x)/\Below w.heap.size w w':=by
 have HOP:=hide (OpAt.new w 16 (.slice ea el ec) (.slice pa pl pc) (.slice la ll lc) (.slice ha hl hc) (.slice ta tl tc) x)
 obtain ⟨o0,o1,o2,o3,o4,o5,o6⟩:=HOP.out.cells
 have q:=(OpAt.new (w.alloc (.cells #[.int .i64 16,.slice ea el ec,.slice pa pl pc,.slice la ll lc,.slice ha hl hc,.slice ta tl tc,.int .i64 x] 38)) 16 (.slice none 0 0) (.slice pa pl pc) (.slice la ll lc) (.slice ha hl hc) (.slice ta tl tc) 0).alloc (.cells #[.int .i64 16,.slice none 0 0,.slice pa pl pc,.slice la ll lc,.slice ha hl hc,.slice ta tl tc,.int .i64 0] 38)
 simp only [World.size_alloc] at q
 obtain ⟨u0,u1,u2,u3,u4,u5,u6⟩:=q.cells
 have HB1:=(Below.refl w.heap.size w).alloc (Nat.le_refl _) (.cells #[.int .i64 16,.slice ea el ec,.slice pa pl pc,.slice la ll lc,.slice ha hl hc,.slice ta tl tc,.int .i64 x] 38)
 have HB2:=hide (HB1.alloc HB1.size (.cells #[.int .i64 16,.slice none 0 0,.slice pa pl pc,.slice la ll lc,.slice ha hl hc,.slice ta tl tc,.int .i64 0] 38))
 have HB3:=hide (HB2.out.alloc HB2.out.size (.cells #[.int .i64 16,.slice none 0 0,.slice pa pl pc,.slice la ll lc,.slice ha hl hc,.slice ta tl tc,.int .i64 0] 38))
 have hv:meantV 16 (.slice ea el ec) (.slice pa pl pc) (.slice la ll lc) (.slice ha hl hc) (.slice ta tl tc) x=.agg #[.int .i64 16,.slice none 0 0,.slice pa pl pc,.slice la ll lc,.slice ha hl hc,.slice ta tl tc,.int .i64 0]:=by simp [meantV,nilV]
 rw [hv]
 clear q HB1 hv
 go_enter Tryz.func30,Tryz.ntmps30
 go_wp2_with fail
 go_region
 all_goals go_wp2
 all_goals exact bodyPost_ret (v:=.agg #[.int .i64 16,.slice none 0 0,.slice pa pl pc,.slice la ll lc,.slice ha hl hc,.slice ta tl tc,.int .i64 0]) (by simp [results,Tryz.results30,go_sem,u0,u1,u2,u3,u4,u5,u6]) rfl ⟨rfl,HB3.out.drew⟩
theorem rplain_17 (ea:Option Addr) (el ec:Nat) (pa:Option Addr) (pl pc:Nat) (la:Option Addr) (ll lc:Nat) (ha:Option Addr) (hl hc:Nat) (ta:Option Addr) (tl tc:Nat) (x:Int) (w:World) :
 Calls Tryz.prog 30 #[.agg #[.int .i64 17,.slice ea el ec,.slice pa pl pc,.slice la ll lc,.slice ha hl hc,.slice ta tl tc,.int .i64 x]] w fun e w'=>e=.returned (meantV 17 (.slice ea el ec) (.slice pa pl pc) (.slice la ll lc) (.slice ha hl hc) (.slice ta tl tc) x)/\Below w.heap.size w w':=by
 have HOP:=hide (OpAt.new w 17 (.slice ea el ec) (.slice pa pl pc) (.slice la ll lc) (.slice ha hl hc) (.slice ta tl tc) x)
 obtain ⟨o0,o1,o2,o3,o4,o5,o6⟩:=HOP.out.cells
 have q:=(OpAt.new (w.alloc (.cells #[.int .i64 17,.slice ea el ec,.slice pa pl pc,.slice la ll lc,.slice ha hl hc,.slice ta tl tc,.int .i64 x] 38)) 17 (.slice none 0 0) (.slice pa pl pc) (.slice none 0 0) (.slice none 0 0) (.slice none 0 0) 0).alloc (.cells #[.int .i64 17,.slice none 0 0,.slice pa pl pc,.slice none 0 0,.slice none 0 0,.slice none 0 0,.int .i64 0] 38)
 simp only [World.size_alloc] at q
 obtain ⟨u0,u1,u2,u3,u4,u5,u6⟩:=q.cells
 have HB1:=(Below.refl w.heap.size w).alloc (Nat.le_refl _) (.cells #[.int .i64 17,.slice ea el ec,.slice pa pl pc,.slice la ll lc,.slice ha hl hc,.slice ta tl tc,.int .i64 x] 38)
 have HB2:=hide (HB1.alloc HB1.size (.cells #[.int .i64 17,.slice none 0 0,.slice pa pl pc,.slice none 0 0,.slice none 0 0,.slice none 0 0,.int .i64 0] 38))
 have HB3:=hide (HB2.out.alloc HB2.out.size (.cells #[.int .i64 17,.slice none 0 0,.slice pa pl pc,.slice none 0 0,.slice none 0 0,.slice none 0 0,.int .i64 0] 38))
 have hv:meantV 17 (.slice ea el ec) (.slice pa pl pc) (.slice la ll lc) (.slice ha hl hc) (.slice ta tl tc) x=.agg #[.int .i64 17,.slice none 0 0,.slice pa pl pc,.slice none 0 0,.slice none 0 0,.slice none 0 0,.int .i64 0]:=by simp [meantV,nilV]
 rw [hv]
 clear q HB1 hv
 go_enter Tryz.func30,Tryz.ntmps30
 go_wp2
 all_goals exact bodyPost_ret (v:=.agg #[.int .i64 17,.slice none 0 0,.slice pa pl pc,.slice none 0 0,.slice none 0 0,.slice none 0 0,.int .i64 0]) (by simp [results,Tryz.results30,go_sem,u0,u1,u2,u3,u4,u5,u6]) rfl ⟨rfl,HB3.out⟩
theorem rplain_19 (ea:Option Addr) (el ec:Nat) (pa:Option Addr) (pl pc:Nat) (la:Option Addr) (ll lc:Nat) (ha:Option Addr) (hl hc:Nat) (ta:Option Addr) (tl tc:Nat) (x:Int) (w:World) :
 Calls Tryz.prog 30 #[.agg #[.int .i64 19,.slice ea el ec,.slice pa pl pc,.slice la ll lc,.slice ha hl hc,.slice ta tl tc,.int .i64 x]] w fun e w'=>e=.returned (meantV 19 (.slice ea el ec) (.slice pa pl pc) (.slice la ll lc) (.slice ha hl hc) (.slice ta tl tc) x)/\Below w.heap.size w w':=by
 have HOP:=hide (OpAt.new w 19 (.slice ea el ec) (.slice pa pl pc) (.slice la ll lc) (.slice ha hl hc) (.slice ta tl tc) x)
 obtain ⟨o0,o1,o2,o3,o4,o5,o6⟩:=HOP.out.cells
 have q:=(OpAt.new (w.alloc (.cells #[.int .i64 19,.slice ea el ec,.slice pa pl pc,.slice la ll lc,.slice ha hl hc,.slice ta tl tc,.int .i64 x] 38)) 19 (.slice ea el ec) (.slice none 0 0) (.slice none 0 0) (.slice none 0 0) (.slice none 0 0) 0).alloc (.cells #[.int .i64 19,.slice ea el ec,.slice none 0 0,.slice none 0 0,.slice none 0 0,.slice none 0 0,.int .i64 0] 38)
 simp only [World.size_alloc] at q
 obtain ⟨u0,u1,u2,u3,u4,u5,u6⟩:=q.cells
 have HB1:=(Below.refl w.heap.size w).alloc (Nat.le_refl _) (.cells #[.int .i64 19,.slice ea el ec,.slice pa pl pc,.slice la ll lc,.slice ha hl hc,.slice ta tl tc,.int .i64 x] 38)
 have HB2:=hide (HB1.alloc HB1.size (.cells #[.int .i64 19,.slice ea el ec,.slice none 0 0,.slice none 0 0,.slice none 0 0,.slice none 0 0,.int .i64 0] 38))
 have HB3:=hide (HB2.out.alloc HB2.out.size (.cells #[.int .i64 19,.slice ea el ec,.slice none 0 0,.slice none 0 0,.slice none 0 0,.slice none 0 0,.int .i64 0] 38))
 have hv:meantV 19 (.slice ea el ec) (.slice pa pl pc) (.slice la ll lc) (.slice ha hl hc) (.slice ta tl tc) x=.agg #[.int .i64 19,.slice ea el ec,.slice none 0 0,.slice none 0 0,.slice none 0 0,.slice none 0 0,.int .i64 0]:=by simp [meantV,nilV]
 rw [hv]
 clear q HB1 hv
 go_enter Tryz.func30,Tryz.ntmps30
 go_wp2
 all_goals exact bodyPost_ret (v:=.agg #[.int .i64 19,.slice ea el ec,.slice none 0 0,.slice none 0 0,.slice none 0 0,.slice none 0 0,.int .i64 0]) (by simp [results,Tryz.results30,go_sem,u0,u1,u2,u3,u4,u5,u6]) rfl ⟨rfl,HB3.out⟩
theorem rplain_other (k:Int) (ea:Option Addr) (el ec:Nat) (pa:Option Addr) (pl pc:Nat) (la:Option Addr) (ll lc:Nat) (ha:Option Addr) (hl hc:Nat) (ta:Option Addr) (tl tc:Nat) (x:Int) (w:World) (hk:k≠1/\k≠2/\k≠9/\k≠10/\k≠11/\k≠12/\k≠13/\k≠14/\k≠15/\k≠16/\k≠17/\k≠19) :
 Calls Tryz.prog 30 #[.agg #[.int .i64 k,.slice ea el ec,.slice pa pl pc,.slice la ll lc,.slice ha hl hc,.slice ta tl tc,.int .i64 x]] w fun e w'=>e=.returned (meantV k (.slice ea el ec) (.slice pa pl pc) (.slice la ll lc) (.slice ha hl hc) (.slice ta tl tc) x)/\Below w.heap.size w w':=by
 have HOP:=hide (OpAt.new w k (.slice ea el ec) (.slice pa pl pc) (.slice la ll lc) (.slice ha hl hc) (.slice ta tl tc) x)
 obtain ⟨o0,o1,o2,o3,o4,o5,o6⟩:=HOP.out.cells
 have q:=(OpAt.new (w.alloc (.cells #[.int .i64 k,.slice ea el ec,.slice pa pl pc,.slice la ll lc,.slice ha hl hc,.slice ta tl tc,.int .i64 x] 38)) k (.slice none 0 0) (.slice none 0 0) (.slice none 0 0) (.slice none 0 0) (.slice none 0 0) 0).alloc (.cells #[.int .i64 k,.slice none 0 0,.slice none 0 0,.slice none 0 0,.slice none 0 0,.slice none 0 0,.int .i64 0] 38)
 simp only [World.size_alloc] at q
 obtain ⟨u0,u1,u2,u3,u4,u5,u6⟩:=q.cells
 have HB1:=(Below.refl w.heap.size w).alloc (Nat.le_refl _) (.cells #[.int .i64 k,.slice ea el ec,.slice pa pl pc,.slice la ll lc,.slice ha hl hc,.slice ta tl tc,.int .i64 x] 38)
 have HB2:=hide (HB1.alloc HB1.size (.cells #[.int .i64 k,.slice none 0 0,.slice none 0 0,.slice none 0 0,.slice none 0 0,.slice none 0 0,.int .i64 0] 38))
 have HB3:=hide (HB2.out.alloc HB2.out.size (.cells #[.int .i64 k,.slice none 0 0,.slice none 0 0,.slice none 0 0,.slice none 0 0,.slice none 0 0,.int .i64 0] 38))
 have hv:meantV k (.slice ea el ec) (.slice pa pl pc) (.slice la ll lc) (.slice ha hl hc) (.slice ta tl tc) x=.agg #[.int .i64 k,.slice none 0 0,.slice none 0 0,.slice none 0 0,.slice none 0 0,.slice none 0 0,.int .i64 0]:=by unfold meantV nilV;rw [if_neg (by omega),if_neg (by omega),if_neg (by omega),if_neg (by omega),if_neg (by omega),if_neg (by omega)]
 rw [hv]
 clear q HB1 hv
 have c1:(k == 1)=false:=by simp;omega
 have c2:(k == 2)=false:=by simp;omega
 have c9:(k == 9)=false:=by simp;omega
 have c10:(k == 10)=false:=by simp;omega
 have c11:(k == 11)=false:=by simp;omega
 have c12:(k == 12)=false:=by simp;omega
 have c13:(k == 13)=false:=by simp;omega
 have c14:(k == 14)=false:=by simp;omega
 have c15:(k == 15)=false:=by simp;omega
 have c16:(k == 16)=false:=by simp;omega
 have c17:(k == 17)=false:=by simp;omega
 have c19:(k == 19)=false:=by simp;omega
 clear hk
 go_enter Tryz.func30,Tryz.ntmps30
 go_wp2
 all_goals exact bodyPost_ret (v:=.agg #[.int .i64 k,.slice none 0 0,.slice none 0 0,.slice none 0 0,.slice none 0 0,.slice none 0 0,.int .i64 0]) (by simp [results,Tryz.results30,go_sem,u0,u1,u2,u3,u4,u5,u6]) rfl ⟨rfl,HB3.out⟩
theorem rplain_any (k:Int) (ea:Option Addr) (el ec:Nat) (pa:Option Addr) (pl pc:Nat) (la:Option Addr) (ll lc:Nat) (ha:Option Addr) (hl hc:Nat) (ta:Option Addr) (tl tc:Nat) (x:Int) (w:World) :
 Calls Tryz.prog 30 #[.agg #[.int .i64 k,.slice ea el ec,.slice pa pl pc,.slice la ll lc,.slice ha hl hc,.slice ta tl tc,.int .i64 x]] w fun e w'=>e=.returned (meantV k (.slice ea el ec) (.slice pa pl pc) (.slice la ll lc) (.slice ha hl hc) (.slice ta tl tc) x)/\Below w.heap.size w w':=by
 by_cases hk:k≠1/\k≠2/\k≠9/\k≠10/\k≠11/\k≠12/\k≠13/\k≠14/\k≠15/\k≠16/\k≠17/\k≠19
 · exact rplain_other k ea el ec pa pl pc la ll lc ha hl hc ta tl tc x w hk
 · have h:k=1\/k=2\/k=9\/k=10\/k=11\/k=12\/k=13\/k=14\/k=15\/k=16\/k=17\/k=19:=by omega
   rcases h with rfl | rfl | rfl | rfl | rfl | rfl | rfl | rfl | rfl | rfl | rfl | rfl
   · exact rplain_1 ea el ec pa pl pc la ll lc ha hl hc ta tl tc x w
   · exact rplain_2 ea el ec pa pl pc la ll lc ha hl hc ta tl tc x w
   · exact rplain_9 ea el ec pa pl pc la ll lc ha hl hc ta tl tc x w
   · exact rplain_10 ea el ec pa pl pc la ll lc ha hl hc ta tl tc x w
   · exact rplain_11 ea el ec pa pl pc la ll lc ha hl hc ta tl tc x w
   · exact rplain_12 ea el ec pa pl pc la ll lc ha hl hc ta tl tc x w
   · exact rplain_13 ea el ec pa pl pc la ll lc ha hl hc ta tl tc x w
   · exact rplain_14 ea el ec pa pl pc la ll lc ha hl hc ta tl tc x w
   · exact rplain_15 ea el ec pa pl pc la ll lc ha hl hc ta tl tc x w
   · exact rplain_16 ea el ec pa pl pc la ll lc ha hl hc ta tl tc x w
   · exact rplain_17 ea el ec pa pl pc la ll lc ha hl hc ta tl tc x w
   · exact rplain_19 ea el ec pa pl pc la ll lc ha hl hc ta tl tc x w
end Go.Proofs.YtakpedjhgdkhkaaGreatDoor.V
