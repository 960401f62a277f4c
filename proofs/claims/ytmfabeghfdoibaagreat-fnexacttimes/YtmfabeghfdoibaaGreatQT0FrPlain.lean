import Derived.Below
import Derived.WalkKit
import Derived.RowKit3
import Derived.Laws.AppendOwn
import Derived.Laws.OwnMore
namespace Go.Proofs.YtmfabeghfdoibaaGreat
open Go.RowKit
theorem nlr {n:Nat}:n≤n:=Nat.le_refl n
abbrev Bel (w:World):World→Prop:=Below w.heap.size w
abbrev ic (a b c:Int):Array Value:=#[.int .i64 a,.int .i64 b,.int .i64 c]
abbrev zi:Array Value:=#[.int .i64 0,.int .i64 0,.int .i64 0]
abbrev dq (a b c d:Bool) (n:Int):Array Value:=#[.bool a,.bool b,.bool c,.bool d,.int .i64 n]
theorem od {p:Prop} [Decidable p] (h:decide p=true):p:=of_decide_eq_true h
def CellsAt (w:World) (g off:Nat) (xs:List Value):Prop :=
 ∀ j,j<xs.length→w.cell? ⟨g,off+j,none⟩=some (xs[j]?.getD undef)∧w.frozen? ⟨g,off+j,none⟩=false
def SlIn (b t:Nat) (w:World) (v:Value) (n:Nat) (xs:List Value):Prop :=
 ∃ a cap,v = .slice a n cap∧(xs≠[]→∃ g off,a=some ⟨g,off,none⟩∧b≤g∧g<t∧t≤w.heap.size∧CellsAt w g off xs)
def Hits (v:Value) (m k o:Nat):Prop:=∃ off n cap,v = .slice (some ⟨k,off,none⟩) n cap∧off≤o∧o<off+m
structure Turn (H:Nat→Nat→Prop) (w w':World):Prop where
 os:w'.os=w.os
 tape:w'.tape=w.tape
 output:w'.output=w.output
 size:w'.heap.size=w.heap.size
 block:∀ k,(∀ o,¬ H k o)→w'.heap[k]? = w.heap[k]?
 cell:∀ k o,¬ H k o→w'.cell? ⟨k,o,none⟩=w.cell? ⟨k,o,none⟩
 ice:∀ k o,w'.frozen? ⟨k,o,none⟩=w.frozen? ⟨k,o,none⟩
theorem Turn.refl (H:Nat→Nat→Prop) (w:World):Turn H w w:=⟨rfl,rfl,rfl,rfl,fun _ _=>rfl,fun _ _ _=>rfl,fun _ _=>rfl⟩
theorem Turn.trans {H:Nat→Nat→Prop} {x y z:World} (h:Turn H x y) (g:Turn H y z):Turn H x z :=
 ⟨g.os.trans h.os,g.tape.trans h.tape,g.output.trans h.output,g.size.trans h.size,fun k hk=>(g.block k hk).trans (h.block k hk),fun k o hk=>(g.cell k o hk).trans (h.cell k o hk),fun k o=>(g.ice k o).trans (h.ice k o)⟩
theorem Turn.wide {H G:Nat→Nat→Prop} {x y:World} (h:Turn H x y) (hg:∀ k o,H k o→G k o):Turn G x y :=
 ⟨h.os,h.tape,h.output,h.size,fun k hk=>h.block k fun o ho=>hk o (hg k o ho),fun k o hk=>h.cell k o fun ho=>hk (hg k o ho),h.ice⟩
theorem turn_set (w:World) (g o:Nat) (u:Value):Turn (fun k p=>k=g∧p=o) w (w.setCell ⟨g,o,none⟩ u):=by
 refine ⟨rfl,rfl,rfl,by simp [World.setCell],fun k hk=>Below.heap_setCell _ _ _ _ (fun e=>hk o ⟨e,rfl⟩),fun k p hk=>?_,fun k p=>World.frozen?_setCell _ _ _ _⟩
 refine World.cell?_setCell_other _ _ _ _ ?_
 intro e
 simp only [Addr.mk.injEq,and_true] at e
 exact hk ⟨e.1.symm,e.2.symm⟩
theorem cell_kept {w w':World} {k o:Nat} (h:w'.heap[k]? = w.heap[k]?):w'.cell? ⟨k,o,none⟩=w.cell? ⟨k,o,none⟩:=World.cell?_of_block (w:=w) h
theorem ice_kept {w w':World} {k o:Nat} (h:w'.heap[k]? = w.heap[k]?):w'.frozen? ⟨k,o,none⟩=w.frozen? ⟨k,o,none⟩:=World.frozen?_of_block (w:=w) h
section
variable {b t n:Nat} {w w':World} {v:Value} {xs:List Value}
theorem SlIn.shape (h:SlIn b t w v n xs):∃ a cap,v = .slice a n cap:=by
 obtain ⟨a,cap,e,_⟩:=h
 exact ⟨a,cap,e⟩
theorem SlIn.keep (h:SlIn b t w v n xs) (hs:w.heap.size≤w'.heap.size) (hk:∀ k,b≤k→k<t→w'.heap[k]? = w.heap[k]?):SlIn b t w' v n xs:=by
 obtain ⟨a,cap,e,hx⟩:=h
 refine ⟨a,cap,e,fun hne=>?_⟩
 obtain ⟨g,off,e1,h1,h2,h3,h4⟩:=hx hne
 refine ⟨g,off,e1,h1,h2,Nat.le_trans h3 hs,fun j hj=>?_⟩
 rw [cell_kept (hk g h1 h2),ice_kept (hk g h1 h2)]
 exact h4 j hj
theorem SlIn.below (h:SlIn b t w v n xs) (g:Bel w w'):SlIn b t w' v n xs:=by
 obtain ⟨a,cap,e,hx⟩:=h
 refine ⟨a,cap,e,fun hne=>?_⟩
 obtain ⟨g0,off,e1,h1,h2,h3,h4⟩:=hx hne
 refine ⟨g0,off,e1,h1,h2,Nat.le_trans h3 g.size,fun j hj=>?_⟩
 have hb:=g.block g0 (Nat.lt_of_lt_of_le h2 h3)
 rw [cell_kept hb,ice_kept hb]
 exact h4 j hj
theorem SlIn.turn {H:Nat→Nat→Prop} (h:SlIn b t w v n xs) (g:Turn H w w') (hd:∀ k o,Hits v xs.length k o→¬ H k o):SlIn b t w' v n xs:=by
 obtain ⟨a,cap,e,hx⟩:=h
 refine ⟨a,cap,e,fun hne=>?_⟩
 obtain ⟨g0,off,e1,h1,h2,h3,h4⟩:=hx hne
 refine ⟨g0,off,e1,h1,h2,by rw [g.size];exact h3,fun j hj=>?_⟩
 rw [g.cell g0 (off+j) (hd _ _ ⟨off,n,cap,by rw [e,e1],by omega,by omega⟩),g.ice]
 exact h4 j hj
theorem SlIn.wide {b' t':Nat} (h:SlIn b t w v n xs) (hb:b'≤b) (ht:t≤t') (hs:t'≤w.heap.size):SlIn b' t' w v n xs:=by
 obtain ⟨a,cap,e,hx⟩:=h
 refine ⟨a,cap,e,fun hne=>?_⟩
 obtain ⟨g0,off,e1,h1,h2,h3,h4⟩:=hx hne
 exact ⟨g0,off,e1,Nat.le_trans hb h1,Nat.lt_of_lt_of_le h2 ht,hs,h4⟩
theorem SlIn.in (h:SlIn b t w v n xs) {k o:Nat} (hh:Hits v xs.length k o):b≤k∧k<t:=by
 obtain ⟨a,cap,e,hx⟩:=h
 obtain ⟨off,n',cap',e',h1,h2⟩:=hh
 obtain ⟨g0,off',e1,h3,h4,_⟩:=hx (by rintro rfl;simp at h2;omega)
 rw [e,e1] at e'
 cases e'
 exact ⟨h3,h4⟩
theorem SlIn.put {g off cap:Nat} (h:SlIn b t w (.slice (some ⟨g,off,none⟩) n cap) n xs) (j:Nat) (hj:j<xs.length) (u:Value) :
 SlIn b t (w.setCell ⟨g,off+j,none⟩ u) (.slice (some ⟨g,off,none⟩) n cap) n (xs.set j u):=by
 obtain ⟨a,cap',e,hx⟩:=h
 cases e
 refine ⟨_,_,rfl,fun _=>?_⟩
 obtain ⟨g0,off',e1,h1,h2,h3,h4⟩:=hx (by rintro rfl;simp at hj)
 cases e1
 refine ⟨g,off,rfl,h1,h2,by simpa [World.setCell] using h3,fun i hi=>?_⟩
 rw [List.length_set] at hi
 refine ⟨?_,by rw [World.frozen?_setCell];exact (h4 i hi).2⟩
 by_cases hij:i=j
 ·subst hij
  rw [World.cell?_setCell_same' _ _ _ (by rw [(h4 i hi).1];rfl)]
  simp [hi]
 ·rw [World.cell?_setCell_other _ _ _ _ (by simp<;>omega),(h4 i hi).1,List.getElem?_set_ne (fun e=>hij e.symm)]
theorem SlIn.nil (b t:Nat) (w:World) (a:Option Addr) (cap n:Nat):SlIn b t w (.slice a n cap) n []:=⟨a,cap,rfl,fun h=>absurd rfl h⟩
theorem SlIn.of_row {e:TypeId} {c:Nat} (h:w.ownsRow b e c v n xs) (ht:∀ k,v.ownBlock=some k→k<t) (hs:t≤w.heap.size):SlIn b t w v n xs:=by
 rcases h.2 with ⟨rfl,rfl⟩|⟨g,cap,cur,rfl,hb,hg,hc,_,hz,hx⟩
 ·have:xs=[]:=by have:=h.1;simpa using this
  subst this
  exact SlIn.nil _ _ _ _ _ _
 ·refine ⟨_,_,rfl,fun _=>⟨g,0,rfl,hb,ht g rfl,hs,fun j hj=>?_⟩⟩
  rw [Nat.zero_add]
  refine ⟨?_,h.frozenAt j⟩
  rw [h.cellAt j (by rw [← h.1];exact hj),List.getElem?_eq_getElem hj]
  rfl
theorem SlIn.cells {g off cap:Nat} (h:SlIn b t w (.slice (some ⟨g,off,none⟩) n cap) n xs) (j:Nat) (hj:j<xs.length):w.cell? ⟨g,off+j,none⟩=some (xs[j]?.getD undef)∧w.frozen? ⟨g,off+j,none⟩=false:=by
 obtain ⟨a,cap',e,hx⟩:=h
 cases e
 obtain ⟨g0,off',e1,h1,h2,h3,h4⟩:=hx (by rintro rfl;simp at hj)
 cases e1
 exact h4 j hj
theorem SlIn.some {a:Option Addr} {cap:Nat} (h:SlIn b t w (.slice a n cap) n xs) (hne:xs≠[]):∃ g off,a=some ⟨g,off,none⟩∧b≤g∧g<t∧t≤w.heap.size:=by
 obtain ⟨a',cap',e,hx⟩:=h
 cases e
 obtain ⟨g0,off',e1,h1,h2,h3,_⟩:=hx hne
 exact ⟨g0,off',e1,h1,h2,h3⟩
end
def inB (lo hi n:Int):Bool:=decide (lo≤n∧n≤hi)
theorem inB_true {lo hi n:Int}:inB lo hi n=true↔lo≤n∧n≤hi:=by simp [inB]
theorem inB_false {lo hi n:Int}:inB lo hi n=false↔n<lo∨hi<n:=by simp [inB];omega
def IntsAt (w:World) (a:Option Addr) (zs:List Int):Prop :=
 ∀ k,k<zs.length→∃ b off,a=some ⟨b,off,none⟩∧b<w.heap.size∧w.cell? ⟨b,off+k,none⟩=some (.int .i64 (zs[k]?.getD 0))
theorem IntsAt.below {w w':World} {a:Option Addr} {zs:List Int} (h:IntsAt w a zs) (g:Bel w w'):IntsAt w' a zs:=by
 intro k hk
 obtain ⟨b,off,e,hb,hc⟩:=h k hk
 exact ⟨b,off,e,Nat.lt_of_lt_of_le hb g.size,by rw [g.cell (p:=⟨b,off+k,none⟩) hb];exact hc⟩
theorem IntsAt.alloc {w:World} {a:Option Addr} {zs:List Int} (h:IntsAt w a zs) (o:Obj):IntsAt (w.alloc o) a zs :=
 h.below ((Below.refl _ _).alloc nlr _)
theorem IntsAt.nil (w:World) (a:Option Addr):IntsAt w a []:=by intro k hk;simp at hk
theorem ints_new (w:World) (t:TypeId) (zs:List Int) (cs:Array Value) (B:Nat) (hB:B=w.heap.size) (h:cs=(zs.map (Value.int .i64)).toArray):IntsAt (w.alloc (.cells cs t)) (some ⟨B,0,none⟩) zs:=by
 subst hB;subst h
 intro k hk
 refine ⟨_,_,rfl,by simp,?_⟩
 rw [World.cell?_alloc_new w _ _ (0+k)]
 simp [List.getElem?_eq_getElem hk]
theorem bel_alloc {B:Nat} {w w':World} (h:Below B w w') (hB:B≤w.heap.size) (o:Obj):Below B w (w'.alloc o):=h.alloc (Nat.le_trans hB h.size) o
end Go.Proofs.YtmfabeghfdoibaaGreat
