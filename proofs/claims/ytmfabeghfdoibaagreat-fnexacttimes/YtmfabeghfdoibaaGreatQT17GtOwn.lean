import Derived.Test.YtmfabeghfdoibaaGreatQT6GtSpot
import Derived.Test.YtmfabeghfdoibaaGreatQT16IzGrow
import Derived.Test.YtmfabeghfdoibaaGreatQT14FwGrow
namespace Go.Proofs.YtmfabeghfdoibaaGreat
open Go.RowKit
theorem IzG.mono {b b':Nat} {v:Value} {vs:List Value} {ls:List (List It)} {w:World} (h:IzG b v vs ls w) (hb:b'≤b):IzG b' v vs ls w :=
 ⟨⟨h.outer.1,h.outer.2.imp id fun ⟨g,cap,cur,h1,h2,h3⟩=>⟨g,cap,cur,h1,Nat.le_trans hb h2,h3⟩⟩,h.len,fun i hi=>(h.row i hi).mono hb,h.apart⟩
theorem FwG.mono {b b':Nat} {v:Value} {rs:List Fwr} {l:List Fw} {w:World} (h:FwG b v rs l w) (hb:b'≤b):FwG b' v rs l w :=
 ⟨⟨h.outer.1,h.outer.2.imp id fun ⟨g,cap,cur,h1,h2,h3⟩=>⟨g,cap,cur,h1,Nat.le_trans hb h2,h3⟩⟩,h.len,h.num,fun i hi=>(h.row i hi).mono hb,h.apart⟩
theorem IzG.shape {b:Nat} {v:Value} {vs:List Value} {ls:List (List It)} {w:World} (h:IzG b v vs ls w):∃ a c,v = .slice a ls.length c:=by
 rcases h.outer.2 with ⟨e,hn⟩|⟨g,cap,cur,e,_⟩
 ·exact ⟨none,0,by rw [e,hn]⟩
 ·exact ⟨_,_,e⟩
theorem FwG.shape {b:Nat} {v:Value} {rs:List Fwr} {l:List Fw} {w:World} (h:FwG b v rs l w):∃ a c,v = .slice a l.length c:=by
 rcases h.outer.2 with ⟨e,hn⟩|⟨g,cap,cur,e,_⟩
 ·exact ⟨none,0,by rw [e,hn]⟩
 ·exact ⟨_,_,e⟩
structure GtO (b:Nat) (w:World) (x:Ga) (vs:List Value) (rs:List Fwr) (g:Gt):Prop where
 routes:RtRow b w (.slice x.a1 g.routes.length x.c1) g.routes
 rules:RuRow b w (.slice x.a2 g.rules.length x.c2) g.rules
 tree:NdRow b w (.slice x.a3 g.tree.length x.c3) g.tree
 leaves:IRow b w (.slice x.a4 g.leaves.length x.c4) g.leaves
 rows:IzG b (.slice x.a5 g.rows.lists.length x.c5) vs g.rows.lists w
 steers:SrRow b w (.slice x.a6 g.steers.length x.c6) g.steers
 fair:FwG b (.slice x.a7 g.fair.flows.length x.c7) rs g.fair.flows w
 apart:∀ i k,i<g.fair.flows.length→(fwrAt rs i).hd.ownBlock=some k→(Value.slice x.a4 g.leaves.length x.c4).ownBlock≠some k
section
variable {b:Nat} {w w':World} {x:Ga} {vs:List Value} {rs:List Fwr} {g:Gt}
theorem GtO.other (h:GtO b w x vs rs g) (q:∀ k,b≤k→k<w.heap.size→w'.heap[k]? = w.heap[k]?):GtO b w' x vs rs g :=
 ⟨h.routes.carry fun k hk hl=>q k (h.routes.lt k hk).1 hl,h.rules.carry fun k hk hl=>q k (h.rules.lt k hk).1 hl,h.tree.carry fun k hk hl=>q k (h.tree.lt k hk).1 hl,h.leaves.carry q,h.rows.other q,h.steers.carry fun k hk hl=>q k (h.steers.lt k hk).1 hl,h.fair.other q,h.apart⟩
theorem GtO.below (h:GtO b w x vs rs g) (q:Bel w w'):GtO b w' x vs rs g:=h.other fun k _ hl=>q.block k hl
theorem GtO.mono {b':Nat} (h:GtO b w x vs rs g) (hb:b'≤b):GtO b' w x vs rs g :=
 ⟨h.routes.mono hb,h.rules.mono hb,h.tree.mono hb,h.leaves.mono hb,h.rows.mono hb,h.steers.mono hb,h.fair.mono hb,h.apart⟩
theorem GtO.at (h:GtO b w x vs rs g):GtV w x g :=
 ⟨⟨_,_,rfl,h.routes.at,h.routes.cap,h.routes.nilCap⟩,⟨_,_,rfl,h.rules.at,h.rules.cap,h.rules.nilCap⟩,⟨_,_,rfl,h.tree.at,h.tree.cap,h.tree.nilCap⟩,(IntsW.of_row h.leaves).at,⟨_,_,rfl,(IzIn.at ⟨vs,h.rows.done⟩)⟩,⟨_,_,rfl,h.steers.at,h.steers.cap,h.steers.nilCap⟩,⟨_,_,rfl,(FwsIn.at ⟨rs,h.fair.done⟩)⟩⟩
end
def GtLie (b t:Nat) (W:World) (v:Value) (g:Gt):Prop :=
 ∃ w0 x vs rs,v=g.val x∧GtO b w0 x vs rs g∧w0.heap.size≤t∧t≤W.heap.size∧∀ k,b≤k→k<t→k<w0.heap.size→W.heap[k]? = w0.heap[k]?
section
variable {b t:Nat} {w w':World} {v:Value} {g:Gt}
theorem GtLie.keep (h:GtLie b t w v g) (hs:w.heap.size≤w'.heap.size) (hk:∀ k,b≤k→k<t→w'.heap[k]? = w.heap[k]?):GtLie b t w' v g:=by
 obtain ⟨w0,x,vs,rs,e,o,h1,h2,h3⟩:=h
 exact ⟨w0,x,vs,rs,e,o,h1,Nat.le_trans h2 hs,fun k k1 k2 k3=>(hk k k1 k2).trans (h3 k k1 k2 k3)⟩
theorem GtLie.own (h:GtLie b t w v g):∃ x vs rs,v=g.val x∧GtO b w x vs rs g:=by
 obtain ⟨w0,x,vs,rs,e,o,h1,h2,h3⟩:=h
 exact ⟨x,vs,rs,e,o.other fun k k1 k2=>h3 k k1 (Nat.lt_of_lt_of_le k2 h1) k2⟩
theorem GtLie.at (h:GtLie b t w v g):GtAt w v g:=by
 obtain ⟨x,vs,rs,e,o⟩:=h.own
 exact ⟨x,e,o.at⟩
theorem GtLie.below (h:GtLie b t w v g) (q:Bel w w'):GtLie b t w' v g:=by
 have h2:=h
 obtain ⟨w0,x,vs,rs,e,o,h1,ht,h3⟩:=h2
 exact h.keep q.size fun k _ k2=>q.block k (Nat.lt_of_lt_of_le k2 ht)
theorem GtLie.cells (h:GtLie b t w v g):∃ x,v=g.val x:=by
 obtain ⟨w0,x,vs,rs,e,_⟩:=h
 exact ⟨x,e⟩
theorem GtO.lie {x:Ga} {vs:List Value} {rs:List Fwr} (h:GtO b w x vs rs g):GtLie b w.heap.size w (g.val x) g:=⟨w,x,vs,rs,rfl,h,nlr,nlr,fun _ _ _ _=>rfl⟩
end
abbrev Thing.was (Q:World→Prop) (b t:Nat):Thing where
 P:=fun W=>∃ w0,Q w0∧w0.heap.size≤t∧t≤W.heap.size∧∀ k,b≤k→k<t→k<w0.heap.size→W.heap[k]? = w0.heap[k]?
 lo:=b
 hi:=t
 keep:=fun ⟨w0,q,h1,h2,h3⟩ hs hk=>⟨w0,q,h1,Nat.le_trans h2 hs,fun k k1 k2 k3=>(hk k k1 k2).trans (h3 k k1 k2 k3)⟩
 lt:=fun ⟨_,_,_,h2,_⟩=>h2
theorem was_laid {Q:World→Prop} {b:Nat} {w:World} (h:Q w):(Thing.was Q b w.heap.size).P w:=⟨w,h,nlr,nlr,fun _ _ _ _=>rfl⟩
theorem was_now {Q:World→Prop} {b t:Nat} {W:World} (h:(Thing.was Q b t).P W) (hq:∀ {w0 w1:World},Q w0→(∀ k,b≤k→k<w0.heap.size→w1.heap[k]? = w0.heap[k]?)→Q w1):Q W:=by
 obtain ⟨w0,q,h1,h2,h3⟩:=h
 exact hq q fun k k1 k2=>h3 k k1 (Nat.lt_of_lt_of_le k2 h1) k2
end Go.Proofs.YtmfabeghfdoibaaGreat
