import Derived.Test.YtmfabeghfdoibaaGreatQT12GtFn
import Derived.Test.YtmfabeghfdoibaaGreatQT17GtOwn
namespace Go.Proofs.YtmfabeghfdoibaaGreat
open Go.RowKit
def Gt.zero:Gt:=⟨⟨0,0,0⟩,[],[],[],[],⟨0,[]⟩,[],⟨0,[]⟩,0,0⟩
theorem Gt.head_iff {g:Gt}:g.head=true↔g.ln.ok=true∧rtsOk g.routes=true∧rusOk g.rules=true∧tok g.tree=true∧(1≤g.leaves.length∧g.leaves.length≤8)∧g.rows.ok=true∧g.rows.lists.length=g.leaves.length∧g.steers.length=g.leaves.length∧g.fair.ok=true∧g.fair.flows.length=g.leaves.length∧(1≤g.next∧g.next≤1000000)∧0≤g.draw∧g.draw≤1048575:=by
 unfold Gt.head
 simp only [Bool.and_eq_true,decide_eq_true_eq,inB_true]
 constructor
 ·rintro ⟨a,b,c,d,e,f,g,h,i,j,k,l,m⟩
  exact ⟨a,b,c,d,⟨e,f⟩,g,h,i,j,k,l,m.1,m.2⟩
 ·rintro ⟨a,b,c,d,⟨e,f⟩,g,h,i,j,k,l,m⟩
  exact ⟨a,b,c,d,e,f,g,h,i,j,k,l,m⟩
theorem Gt.leaf_iff {g:Gt} {i:Nat}:g.leafB i=true↔(0≤g.leaves[i]?.getD 0∧g.leaves[i]?.getD 0<(g.tree.length:Int))∧(i=0∨g.leaves[i-1]?.getD 0<g.leaves[i]?.getD 0)∧(srAt g.steers i).ok=true∧(fwAt g.fair.flows i).sizes.length=(izAt g.rows.lists i).length∧∀ k,k<(izAt g.rows.lists i).length→(itAt (izAt g.rows.lists i) k).id<g.next∧g.ln.takes (itAt (izAt g.rows.lists i) k).size=(fwAt g.fair.flows i).sizes[k]?.getD 0:=by
 unfold Gt.leafB Gt.itemB
 simp only [Bool.and_eq_true,Bool.or_eq_true,decide_eq_true_eq,List.all_eq_true,List.mem_range]
 constructor
 ·rintro ⟨a,b,c,d,e,f⟩
  exact ⟨⟨a,b⟩,c,d,e,f⟩
 ·rintro ⟨⟨a,b⟩,c,d,e,f⟩
  exact ⟨a,b,c,d,e,f⟩
theorem Gt.cells_size (g:Gt) (x:Ga):(g.cells x).size=14:=rfl
theorem Gt.cells_one (g:Gt) (x:Ga):(g.cells x).all (·.oneCell')=true:=by simp [Gt.cells,Value.oneCell']
theorem GtO.zero (b:Nat) (w:World):GtO b w ⟨none,0,none,0,none,0,none,0,none,0,none,0,none,0⟩ [] [] Gt.zero :=
 ⟨World.ownsRow_nil _ _ _ _,World.ownsRow_nil _ _ _ _,World.ownsRow_nil _ _ _ _,World.ownsRow_nil _ _ _ _,IzG.nil _ _,World.ownsRow_nil _ _ _ _,FwG.nil _ _,fun i k hi=>by simp [Gt.zero] at hi⟩
theorem GtLie.zero (b:Nat) (w:World):GtLie b w.heap.size w (.agg #[.int .i64 0,.int .i64 0,.int .i64 0,.slice none 0 0,.slice none 0 0,.slice none 0 0,.slice none 0 0,.int .i64 0,.slice none 0 0,.slice none 0 0,.int .i64 0,.slice none 0 0,.int .i64 0,.int .i64 0]) Gt.zero:=(GtO.zero b w).lie
end Go.Proofs.YtmfabeghfdoibaaGreat
