import Derived.Test.YtmfabeghfdoibaaGreatQT0FrPlain
import Derived.Test.YtmfabeghfdoibaaGreatRows
import Derived.WalkSpells
import Derived.WalkLawsBesides
import Derived.Laws.AppendOwnNone
import Derived.Lib.SliceRun
namespace Go.Proofs.YtmfabeghfdoibaaGreat
open Go.RowKit
theorem heapLt' {w:World} {k:Nat} {o:Obj} (h:w.heap[k]? = some o):k<w.heap.size:=(Array.getElem?_eq_some_iff.1 h).1
def IRow (base:Nat) (w:World) (v:Value) (T:List Int):Prop:=w.ownsRow base 2 1 v T.length (T.map (Value.int .i64))
theorem IRow.carry {base:Nat} {w w':World} {v:Value} {T:List Int} (h:IRow base w v T) (g:∀ k,base≤k→k<w.heap.size→w'.heap[k]? = w.heap[k]?):IRow base w' v T:=by
 refine ⟨h.1,h.2.imp id ?_⟩
 rintro ⟨g0,cap,cur,h1,h2,h3,h4⟩
 exact ⟨g0,cap,cur,h1,h2,by rw [g g0 h2 (heapLt' h3)];exact h3,h4⟩
theorem IRow.shape {base:Nat} {w:World} {v:Value} {T:List Int} (h:IRow base w v T):∃ a cap,v = .slice a T.length cap:=by
 rcases h.2 with ⟨rfl,hn⟩|⟨g,cap,cur,rfl,_⟩
 ·rw [hn];exact ⟨none,0,rfl⟩
 ·exact ⟨_,_,rfl⟩
theorem IRow.ints {base:Nat} {w:World} {a:Option Addr} {cap:Nat} {T:List Int} (h:IRow base w (.slice a T.length cap) T):IntsAt w a T:=by
 intro k hk
 rcases h.2 with ⟨_,hn⟩|⟨g,cap',cur,e,h2,h3,h4⟩
 ·omega
 ·obtain ⟨rfl,_,rfl⟩:a=some ⟨g,0,none⟩∧True∧cap=cap':=by simpa using e
  have hc:=World.ownsRow.cellAt (show w.ownsRow base 2 1 (.slice (some ⟨g,0,none⟩) T.length cap) T.length _ from h) k (by omega)
  exact ⟨g,0,rfl,heapLt' h3,by rw [Nat.zero_add,hc];simp [List.getElem?_eq_getElem hk]⟩
theorem IRow.mono {base base':Nat} {w:World} {v:Value} {xs:List Int} (h:IRow base w v xs) (hb:base'≤base):IRow base' w v xs:=⟨h.1,h.2.imp id fun ⟨g,cap,cur,h1,h2,h3⟩=>⟨g,cap,cur,h1,Nat.le_trans hb h2,h3⟩⟩
theorem info2':(Tryz.prog.info? 2).map (fun i=>(i.zero,i.size,i.bytes))=some (some (.int .i64 0),1,8):=by kernel_rfl
theorem IRow.block {base:Nat} {w:World} {v:Value} {xs:List Int} (h:IRow base w v xs):∀ k,v.ownBlock=some k→base≤k:=fun k hk=>(World.ownsRow.lt h k hk).1
theorem row_iapp1 {ops:Array Oper} {rest:List Oper} {o:Oper} {a:Act} {Q:Exit→Act→World→Prop} {w:World} (hgd:o.guard=none) (s x:Operand)
 (ho:o.op = .call { callee:=.builtin .append,args:=#[s,x],argTypes:=#[27,27] })
 (base:Nat) (v:Value) (xs:List Int) (y:Int) (hs:a.eval s=v) (hrow:IRow base w v xs) (hx:a.eval x = .slice (some ⟨w.heap.size,0,none⟩) 1 1)
 (hlen:xs.length≤1000000) (hb:base≤w.heap.size)
 (h:∀ v' w',IRow base w' v' (xs++[y])→Below base w w'→wpList Tryz.prog ops Q rest (a.put o.dst v') w') :
 wpList Tryz.prog ops Q (o :: rest) a (w.alloc (.cells #[.int .i64 y] 2)):=by
 obtain ⟨i0,hi,hz0,hz1,hz2⟩:=info_parts info2'
 refine wpList_append_own _ hgd s x 27 ho base 2 i0 (.int .i64 0) 1 8 Tryz.underlying27 hi hz0 hz1 hz2 rfl (by decide) _ _ _ hs (World.ownsRow.alloc hrow _) ⟨w.heap.size,0,none⟩ 1 1 [.int .i64 y] hx rfl ?_ ?_ ?_ ?_ ?_ ?_
 ·intro j u hj
  match j,hj with
  |0,hj=>simp at hj;subst hj;simp [Addr.add]
 ·intro u hu;simp at hu;subst hu;rfl
 ·unfold maxLen;omega
 ·omega
 ·simp;omega
 ·intro v' w' h1 h2 _
  refine h v' w' ?_ ?_
  ·unfold IRow
   rw [List.length_append,List.map_append]
   exact h1
  ·exact ((Below.refl base w).alloc hb _).grown h2 (by simp;omega) (fun k hk=>IRow.block hrow k hk)
theorem IRow.below {base n:Nat} {w w':World} {v:Value} {l:List Int} (h:IRow base w v l) (hn:∀ k,v.ownBlock=some k→k<n) (g:Below n w w'):IRow base w' v l:=by
 refine ⟨h.1,h.2.imp id ?_⟩
 rintro ⟨g0,cap,cur,h1,h2,h3,h4⟩
 exact ⟨g0,cap,cur,h1,h2,by rw [g.block g0 (hn g0 (by rw [h1];rfl))];exact h3,h4⟩
theorem IRow.lt {base:Nat} {w:World} {v:Value} {l:List Int} (h:IRow base w v l):∀ k,v.ownBlock=some k→base≤k∧k<w.heap.size:=World.ownsRow.lt h
theorem IRow.alloc {base:Nat} {w:World} {v:Value} {l:List Int} (h:IRow base w v l) (o:Obj):IRow base (w.alloc o) v l:=World.ownsRow.alloc h o
theorem irow_built (w:World) (base:Nat) (hb:base≤w.heap.size):IRow base (w.alloc (.cells #[] 2)) (.slice (some ⟨w.heap.size,0,none⟩) 0 0) [] :=
 ⟨rfl,.inr ⟨w.heap.size,0,#[],rfl,hb,by show (w.heap.push _)[w.heap.size]? = _;simp,nlr,by decide,rfl,rfl⟩⟩
theorem IRow.none {base:Nat} {w:World} {a:Option Addr} {n cap:Nat} {l:List Int} (h:IRow base w (.slice a n cap) l):a = .none→cap=0:=by
 rintro rfl
 rcases h.2 with ⟨e,_⟩|⟨g,cap',cur,e,_⟩
 ·cases e;rfl
 ·cases e
theorem row_iapp {ops:Array Oper} {rest:List Oper} {o:Oper} {a:Act} {Q:Exit→Act→World→Prop} {w:World} (hgd:o.guard=none) (s x:Operand)
 (ho:o.op = .call { callee:=.builtin .append,args:=#[s,x],argTypes:=#[27,27] })
 (base:Nat) (v:Value) (L:List Int) (b off m c:Nat) (M:List Int) (hm:M.length=m) (hs:a.eval s=v) (hx:a.eval x = .slice (some ⟨b,off,none⟩) m c) (hr:IRow base w v L) (hM:∀ k,k<m→w.cell? ⟨b,off+k,none⟩=some (.int .i64 (M[k]?.getD 0)))
 (hl:L.length+M.length≤2097152) (hb:base≤w.heap.size)
 (h:∀ v' w',IRow base w' v' (L++M)→Below base w w'→w.grownBy w' v.ownBlock→(v' = .slice none 0 0→v = .slice none 0 0)→wpList Tryz.prog ops Q rest (a.put o.dst v') w') :
 wpList Tryz.prog ops Q (o :: rest) a w:=by
 obtain ⟨i0,hi,hz0,hz1,hz2⟩:=info_parts info2'
 subst hm
 refine wpList_append_own _ hgd s x 27 ho base 2 i0 (.int .i64 0) 1 8 Tryz.underlying27 hi hz0 hz1 hz2 rfl (by decide) _ _ _ hs hr ⟨b,off,none⟩ M.length c (M.map (Value.int .i64)) hx (by simp) ?_ ?_ ?_ ?_ ?_ ?_
 ·intro j u hj
  have hjl:j<M.length:=by have:=(List.getElem?_eq_some_iff.1 hj).1;simpa using this
  have e:(⟨b,off,none⟩:Addr).add j=⟨b,off+j,none⟩:=by by_cases h0:j=0<;>simp [Addr.add,h0]
  rw [e,hM j hjl]
  rw [List.getElem?_map,List.getElem?_eq_getElem hjl] at hj
  rw [List.getElem?_eq_getElem hjl]
  simpa using hj
 ·intro u hu
  simp at hu
  obtain ⟨y,_,rfl⟩:=hu
  rfl
 ·unfold maxLen;omega
 ·omega
 ·omega
 ·intro v' w' h1 h2 h3
  refine h v' w' ?_ ?_ h2 fun e=>(h3.1 e).1
  ·unfold IRow
   rw [List.length_append,List.map_append]
   exact h1
  ·exact (Below.refl base w).grown h2 hb (fun k hk=>IRow.block hr k hk)
end Go.Proofs.YtmfabeghfdoibaaGreat
