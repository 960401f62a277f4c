import Derived.RowKit3
import Derived.Below
import Derived.WalkKit
import Derived.Laws.Rows
import Derived.Laws.Tables
namespace Go.Proofs.YtmfabeghfdoibaaGreat
open Go.RowKit
def Boxed (w:World) (B:Nat) (cs:Array Value) (t:TypeId):Prop:=w.heap[B]? = some (.cells cs t)
theorem Boxed.cell {w:World} {B:Nat} {cs:Array Value} {t:TypeId} (h:Boxed w B cs t) (j:Nat) {v:Value} (hj:cs[j]? = some v):w.cell? ⟨B,j,none⟩=some v:=by
 unfold Boxed at h
 simp [World.cell?,h,hj]
theorem Boxed.below {w w':World} {B:Nat} {cs:Array Value} {t:TypeId} (h:Boxed w B cs t) {b:Nat} (hb:B<b) (g:Below b w w'):Boxed w' B cs t:=by
 unfold Boxed;rw [g.block B hb];exact h
theorem Boxed.new (w:World) (cs:Array Value) (t:TypeId):Boxed (w.alloc (.cells cs t)) w.heap.size cs t:=by show (w.heap.push _)[w.heap.size]? = _;simp
theorem heapLt {w:World} {k:Nat} {o:Obj} (h:w.heap[k]? = some o):k<w.heap.size:=(Array.getElem?_eq_some_iff.1 h).1
theorem Boxed.under {w:World} {k:Nat} {cs:Array Value} {t:TypeId} (x:Boxed w k cs t):k<w.heap.size:=heapLt x
theorem Boxed.put {w:World} {k:Nat} {cs:Array Value} {t:TypeId} (x:Boxed w k cs t) (j:Nat) (v:Value):Boxed (w.setCell ⟨k,j,none⟩ v) k (cs.setIfInBounds j v) t:=by
 unfold Boxed at *
 simp only [World.setCell,Array.getElem?_modify,if_true,x,Option.map_some]
 rfl
theorem Boxed.far {w:World} {k b:Nat} {cs:Array Value} {t:TypeId} (x:Boxed w k cs t) (h:k≠b) (j:Nat) (v:Value):Boxed (w.setCell ⟨b,j,none⟩ v) k cs t:=by
 unfold Boxed at *
 rw [Below.heap_setCell _ _ _ _ h];exact x
theorem Boxed.ice {w:World} {B:Nat} {cs:Array Value} {t:TypeId} (h:Boxed w B cs t) (j:Nat):w.frozen? ⟨B,j,none⟩=false:=by
 unfold Boxed at h
 simp [World.frozen?,h]
theorem Boxed.more {w:World} {B:Nat} {cs:Array Value} {t:TypeId} (h:Boxed w B cs t) (o:Obj):Boxed (w.alloc o) B cs t:=by
 unfold Boxed at *
 rw [Below.heap_alloc _ _ _ (heapLt h)];exact h
end Go.Proofs.YtmfabeghfdoibaaGreat
