import Derived.Test.YtmfabeghfdoibaaGreatQT17GtOwn
namespace Go.Proofs.YtmfabeghfdoibaaGreat
open Go.RowKit
structure GtB (b B:Nat) (w:World) (x:Ga) (vs:List Value) (rs:List Fwr) (g:Gt):Prop where
 box:Boxed w B (g.cells x) 50
 own:GtO b w x vs rs g
section
variable {b B:Nat} {w w':World} {x:Ga} {vs:List Value} {rs:List Fwr} {g:Gt}
theorem GtB.below (h:GtB b B w x vs rs g) (q:Bel w w'):GtB b B w' x vs rs g:=⟨h.box.below h.box.under q,h.own.below q⟩
theorem gate_off {e:TypeId} {c n:Nat} {v:Value} {xs:List Value} (h:Boxed w B (g.cells x) 50) (r:w.ownsRow b e c v n xs) (hne:50≠e):v.ownBlock≠some B:=by
 intro hk
 rcases r.2 with ⟨rfl,_⟩|⟨k,cap,cur,rfl,_,hg,_⟩
 ·cases hk
 ·cases hk
  unfold Boxed at h
  rw [h] at hg
  simp only [Option.some.injEq,Obj.cells.injEq] at hg
  exact hne hg.2.1
theorem irow_carry {v:Value} {l:List Int} (h:IRow b w v l) (q:∀ k,v.ownBlock=some k→k<w.heap.size→w'.heap[k]? = w.heap[k]?):IRow b w' v l:=by
 refine ⟨h.1,h.2.imp id ?_⟩
 rintro ⟨k,cap,cur,h1,h2,h3,h4⟩
 exact ⟨k,cap,cur,h1,h2,by rw [q k (by rw [h1];rfl) (Array.getElem?_eq_some_iff.1 h3).1];exact h3,h4⟩
theorem IzG.carry {v:Value} {ls:List (List It)} (h:IzG b v vs ls w) (q1:∀ k,v.ownBlock=some k→k<w.heap.size→w'.heap[k]? = w.heap[k]?) (q2:∀ i k,i<ls.length→(izV vs i).ownBlock=some k→k<w.heap.size→w'.heap[k]? = w.heap[k]?):IzG b v vs ls w' :=
 ⟨rows_carry h.outer q1,h.len,fun i hi=>(h.row i hi).carry fun k hk hl=>q2 i k hi hk hl,h.apart⟩
theorem FwG.carry {v:Value} {l:List Fw} (h:FwG b v rs l w) (q1:∀ k,v.ownBlock=some k→k<w.heap.size→w'.heap[k]? = w.heap[k]?) (q2:∀ i k,i<l.length→(fwrAt rs i).hd.ownBlock=some k→k<w.heap.size→w'.heap[k]? = w.heap[k]?):FwG b v rs l w' :=
 ⟨rows_carry h.outer q1,h.len,h.num,fun i hi=>irow_carry (h.row i hi) fun k hk hl=>q2 i k hi hk hl,h.apart⟩
theorem GtO.putTree (h:GtO b w x vs rs g) {l:List Nd} {gt:Nat} (ht:(Value.slice x.a3 g.tree.length x.c3).ownBlock=some gt) (r:NdRow b w' (.slice x.a3 l.length x.c3) l) (q:∀ k,k≠gt→k<w.heap.size→w'.heap[k]? = w.heap[k]?):GtO b w' x vs rs { g with tree:=l }:=by
 have un:∀ {e:TypeId} {c n:Nat} {v:Value} {xs:List Value},w.ownsRow b e c v n xs→77≠e→∀ k,v.ownBlock=some k→k<w.heap.size→w'.heap[k]? = w.heap[k]? := fun hr hne k hk hl=>q k (fun e=>rows_unlike h.tree hr hne gt ht (by rw [← e];exact hk)) hl
 exact ⟨h.routes.carry (un h.routes (by decide)),h.rules.carry (un h.rules (by decide)),r,irow_carry h.leaves (un h.leaves (by decide)),h.rows.carry (un h.rows.outer (by decide)) (fun i k hi=>un (h.rows.row i hi) (by decide) k),h.steers.carry (un h.steers (by decide)),h.fair.carry (un h.fair.outer (by decide)) (fun i k hi=>un (h.fair.row i hi) (by decide) k),h.apart⟩
theorem Gt.cells_tree {l l':List Nd} (hl:l'.length=l.length):({ g with tree:=l' }:Gt).cells x=({ g with tree:=l }:Gt).cells x:=by
 unfold Gt.cells
 simp only [hl]
theorem GtB.putTree {l l':List Nd} {gt:Nat} (h:GtB b B w x vs rs { g with tree:=l }) (hl:l'.length=l.length) (ea:x.a3=some ⟨gt,0,none⟩) (r:NdRow b w' (.slice (some ⟨gt,0,none⟩) l'.length x.c3) l') (q:∀ k,k≠gt→k<w.heap.size→w'.heap[k]? = w.heap[k]?):GtB b B w' x vs rs { g with tree:=l' }:=by
 have hb:(Value.slice x.a3 l.length x.c3).ownBlock=some gt:=by rw [ea];rfl
 have hne:B≠gt:=fun e=>gate_off h.box h.own.tree (by decide) (by rw [e];exact hb)
 refine ⟨?_,h.own.putTree (l:=l') (gt:=gt) hb (by rw [ea];exact r) q⟩
 rw [Gt.cells_tree hl]
 exact (q B hne h.box.under).trans h.box
end
end Go.Proofs.YtmfabeghfdoibaaGreat
