import Derived.Test.YtmfabeghfdoibaaGreatQT19GtMvF
import Derived.Test.YtmfabeghfdoibaaGreatQT35GtVar
namespace Go.Proofs.YtmfabeghfdoibaaGreat
open Go.RowKit
theorem ndcells_tm (l:List Nd) (k:Nat) (n:Int) (hk:k<l.length):(ndcells l).set (k*5+4) (.int .i64 ((ndAt l k).pz.tm+n))=ndcells (l.set k (nmv n (ndAt l k))):=by
 induction l generalizing k with
 |nil=>simp at hk
 |cons x l ih =>
  cases k with
  |zero=>simp [ndcells_cons,ndAt,nmv]
  |succ k =>
   have e:ndAt (x :: l) (k+1)=ndAt l k:=by simp [ndAt]
   rw [show (k+1)*5+4=(k*5+4)+5 by omega,List.set_cons_succ,ndcells_cons,ndcells_cons,e,← ih k (by simpa using hk)]
   rfl
theorem itcells_tm (l:List It) (k:Nat) (n:Int) (hk:k<l.length):(itcells l).set (k*3+2) (.int .i64 ((itAt l k).tm+n))=itcells (l.set k (imv n (itAt l k))):=by
 induction l generalizing k with
 |nil=>simp at hk
 |cons x l ih =>
  cases k with
  |zero=>simp [itcells_cons,itAt,imv]
  |succ k =>
   have e:itAt (x :: l) (k+1)=itAt l k:=by simp [itAt]
   rw [show (k+1)*3+2=(k*3+2)+3 by omega,List.set_cons_succ,itcells_cons,itcells_cons,e,← ih k (by simpa using hk)]
   rfl
theorem span_set {b t sk o:Nat} (w:World) (h1:b≤sk) (h2:sk<t) (u:Value):Span b t w (w.setCell ⟨sk,o,none⟩ u) :=
 ⟨rfl,rfl,rfl,by simp [World.setCell],fun j _ hj=>Below.heap_setCell _ _ _ _ (by show j≠sk;omega)⟩
theorem NdsW.putTm {b t:Nat} {w:World} {sk off c:Nat} {l:List Nd} (h:NdsW b t w (.slice (some ⟨sk,off,none⟩) l.length c) l) {k:Nat} (hk:k<l.length) (n:Int) :
 NdsW b t (w.setCell ⟨sk,off+k*5+4,none⟩ (.int .i64 ((ndAt l k).pz.tm+n))) (.slice (some ⟨sk,off,none⟩) (l.set k (nmv n (ndAt l k))).length c) (l.set k (nmv n (ndAt l k))) ∧
 Span b t w (w.setCell ⟨sk,off+k*5+4,none⟩ (.int .i64 ((ndAt l k).pz.tm+n))):=by
 obtain ⟨h1,a,d,e,h2,h3⟩:=h
 cases e
 have hl:=ndcells_length l
 have p1:=SlIn.put h1 (k*5+4) (by omega) (.int .i64 ((ndAt l k).pz.tm+n))
 rw [ndcells_tm _ _ _ hk] at p1
 obtain ⟨g0,o0,e0,b1,b2,b3⟩:=SlIn.some h1 (ndcells_ne (by omega))
 cases e0
 refine ⟨⟨?_,_,_,rfl,by rw [List.length_set];exact h2,h3⟩,span_set _ b1 b2 _⟩
 unfold NdIn
 rw [List.length_set]
 exact p1
section
variable {lo t:Nat} {w w':World} {x:Ga} {f:Gf} {g:Gt} {vs:List Value}
theorem GtW.putTm (h:GtW w x f g) (i:f.In lo t) (ht:t≤w.heap.size) (ap:f.Apart) {sk off:Nat} (ea:x.a3=some ⟨sk,off,none⟩) {k:Nat} (hk:k<g.tree.length) (n:Int) :
 GtW (w.setCell ⟨sk,off+k*5+4,none⟩ (.int .i64 ((ndAt g.tree k).pz.tm+n))) x f { g with tree:=g.tree.set k (nmv n (ndAt g.tree k)) }∧Span f.b3 f.t3 w (w.setCell ⟨sk,off+k*5+4,none⟩ (.int .i64 ((ndAt g.tree k).pz.tm+n))):=by
 have hs:=h.tree
 rw [ea] at hs
 have p:=NdsW.putTm hs hk n
 refine ⟨h.turn3 i ht ap p.2 ?_,p.2⟩
 rw [ea]
 exact p.1
theorem GtW.tmSpot (h:GtW w x f g) {k:Nat} (hk:k<g.tree.length):∃ sk off,x.a3=some ⟨sk,off,none⟩∧(f.b3≤sk∧sk<f.t3)∧w.cell? ⟨sk,off+k*5+4,none⟩=some (.int .i64 (ndAt g.tree k).pz.tm)∧w.frozen? ⟨sk,off+k*5+4,none⟩=false:=by
 obtain ⟨h1,-⟩:=h.tree
 have hl:=ndcells_length g.tree
 obtain ⟨sk,off,e,b1,b2,b3⟩:=SlIn.some h1 (ndcells_ne (by omega))
 obtain ⟨-,-,-,-,e4⟩:=ndcells_get g.tree k hk
 rw [e] at h1
 have c4:=SlIn.cells h1 (k*5+4) (by omega)
 rw [e4] at c4
 exact ⟨sk,off,e,⟨b1,b2⟩,c4.1,c4.2⟩
theorem IzV.putTm {b t:Nat} {v:Value} {ls:List (List It)} (h:IzV b t w v vs ls) {i k sk off m c:Nat} (hi:i<ls.length) (hk:k<(izAt ls i).length) (e:izV vs i = .slice (some ⟨sk,off,none⟩) m c) (n:Int) :
 IzV b t (w.setCell ⟨sk,off+k*3+2,none⟩ (.int .i64 ((itAt (izAt ls i) k).tm+n))) v vs (ls.set i ((izAt ls i).set k (imv n (itAt (izAt ls i) k))))∧Span b t w (w.setCell ⟨sk,off+k*3+2,none⟩ (.int .i64 ((itAt (izAt ls i) k).tm+n))):=by
 obtain ⟨a0,c0,e0,hc0⟩:=h.cap i hi
 rw [e] at e0
 obtain ⟨ea,em,ec⟩:=Value.slice.inj e0
 subst em
 subst ec
 have hl:=itcells_length (izAt ls i)
 have hr:SlIn b t w (.slice (some ⟨sk,off,none⟩) (izAt ls i).length c) (izAt ls i).length (itcells (izAt ls i)):=by have:=h.row i hi;rw [e] at this;exact this
 obtain ⟨g0,o0,e1,b1,b2,b3⟩:=SlIn.some hr (itcells_ne (by omega))
 cases e1
 have tn:Turn (Hits (izV vs i) ((izAt ls i).length*3)) w (w.setCell ⟨sk,off+k*3+2,none⟩ (.int .i64 ((itAt (izAt ls i) k).tm+n))) :=
  (turn_set w sk (off+k*3+2) (.int .i64 ((itAt (izAt ls i) k).tm+n))).wide fun k' o' ⟨h1,h2⟩=>⟨off,(izAt ls i).length,c,by rw [e,h1],by omega,by omega⟩
 have nw:izAt (ls.set i ((izAt ls i).set k (imv n (itAt (izAt ls i) k)))) i=(izAt ls i).set k (imv n (itAt (izAt ls i) k)):=by unfold izAt;rw [List.getElem?_set_self hi];rfl
 have od:∀ j,j≠i→izAt (ls.set i ((izAt ls i).set k (imv n (itAt (izAt ls i) k)))) j=izAt ls j:=fun j hj=>by unfold izAt;rw [List.getElem?_set_ne (fun e=>hj e.symm)]
 have ln:∀ j,(izAt (ls.set i ((izAt ls i).set k (imv n (itAt (izAt ls i) k)))) j).length=(izAt ls j).length:=fun j=>by
  by_cases hj:j=i
  ·subst hj;rw [nw,List.length_set]
  ·rw [od j hj]
 refine ⟨⟨?_,by rw [List.length_set];exact h.len,fun j hj=>?_,fun j hj=>?_,fun j j' x o hj hj' hne=>?_,fun j x o hj=>?_⟩,span_set _ b1 b2 _⟩
 ·rw [List.length_set]
  refine h.outer.turn tn fun k' o' hh hx=>h.free i k' o' hi hx (by rw [← h.len];exact hh)
 ·rw [List.length_set] at hj
  by_cases hji:j=i
  ·subst hji
   rw [nw,e]
   have p:=SlIn.put hr (k*3+2) (by omega) (.int .i64 ((itAt (izAt ls j) k).tm+n))
   rw [itcells_tm _ _ _ hk] at p
   unfold ItIn
   rw [List.length_set]
   exact p
  ·rw [od j hji]
   exact SlIn.turn (h.row j hj) tn fun k' o' hh hx=>h.apart j i k' o' hj hi hji (by rw [itcells_length] at hh;exact hh) hx
 ·rw [List.length_set] at hj
  rw [ln j]
  exact h.cap j hj
 ·rw [List.length_set] at hj hj'
  rw [ln j,ln j']
  exact h.apart j j' x o hj hj' hne
 ·rw [List.length_set] at hj ⊢
  rw [ln j]
  exact h.free j x o hj
theorem GtW.izv (h:GtW w x f g):∃ vs,IzV f.b5 f.t5 w (.slice x.a5 g.rows.lists.length x.c5) vs g.rows.lists:=by
 obtain ⟨a',c',e,vs,hz⟩:=h.rows
 unfold Rw.val at e
 injection e with e
 have:=congrArg (·[1]?) e
 simp at this
 obtain ⟨e1,e2⟩:=this
 subst e1
 subst e2
 exact ⟨vs,hz⟩
theorem GtW.putIt (h:GtW w x f g) (hz:IzV f.b5 f.t5 w (.slice x.a5 g.rows.lists.length x.c5) vs g.rows.lists) (i:f.In lo t) (ht:t≤w.heap.size) (ap:f.Apart) {j k sk off m c:Nat} (hj:j<g.rows.lists.length) (hk:k<(izAt g.rows.lists j).length) (e:izV vs j = .slice (some ⟨sk,off,none⟩) m c) (n:Int) :
 GtW (w.setCell ⟨sk,off+k*3+2,none⟩ (.int .i64 ((itAt (izAt g.rows.lists j) k).tm+n))) x f { g with rows:=⟨g.rows.most,g.rows.lists.set j ((izAt g.rows.lists j).set k (imv n (itAt (izAt g.rows.lists j) k)))⟩ } ∧
 IzV f.b5 f.t5 (w.setCell ⟨sk,off+k*3+2,none⟩ (.int .i64 ((itAt (izAt g.rows.lists j) k).tm+n))) (.slice x.a5 (g.rows.lists.set j ((izAt g.rows.lists j).set k (imv n (itAt (izAt g.rows.lists j) k)))).length x.c5) vs (g.rows.lists.set j ((izAt g.rows.lists j).set k (imv n (itAt (izAt g.rows.lists j) k)))) ∧
 Span f.b5 f.t5 w (w.setCell ⟨sk,off+k*3+2,none⟩ (.int .i64 ((itAt (izAt g.rows.lists j) k).tm+n))):=by
 obtain ⟨p,s⟩:=hz.putTm hj hk e n
 have p':IzV f.b5 f.t5 (w.setCell ⟨sk,off+k*3+2,none⟩ (.int .i64 ((itAt (izAt g.rows.lists j) k).tm+n))) (.slice x.a5 (g.rows.lists.set j ((izAt g.rows.lists j).set k (imv n (itAt (izAt g.rows.lists j) k)))).length x.c5) vs (g.rows.lists.set j ((izAt g.rows.lists j).set k (imv n (itAt (izAt g.rows.lists j) k)))):=by rw [List.length_set];exact p
 exact ⟨h.turn5 i ht ap s ⟨x.a5,x.c5,rfl,vs,p'⟩,p',s⟩
theorem IzV.tmSpot {b t:Nat} {a:Option Addr} {cc:Nat} {ls:List (List It)} (h:IzV b t w (.slice a ls.length cc) vs ls) {i k:Nat} (hi:i<ls.length) (hk:k<(izAt ls i).length):∃ sk off c,izV vs i = .slice (some ⟨sk,off,none⟩) (izAt ls i).length c∧(b≤sk∧sk<t)∧w.cell? ⟨sk,off+k*3+2,none⟩=some (.int .i64 (itAt (izAt ls i) k).tm)∧w.frozen? ⟨sk,off+k*3+2,none⟩=false:=by
 obtain ⟨a0,c0,e0,hc0⟩:=h.cap i hi
 have hl:=itcells_length (izAt ls i)
 have hr:=h.row i hi
 rw [e0] at hr
 obtain ⟨g0,o0,e1,b1,b2,b3⟩:=SlIn.some hr (itcells_ne (by omega))
 subst e1
 have c4:=SlIn.cells hr (k*3+2) (by omega)
 rw [(itcells_get _ k hk).2.2] at c4
 exact ⟨g0,o0,c0,e0,⟨b1,b2⟩,c4.1,c4.2⟩
theorem IzV.header {b t:Nat} {a:Option Addr} {cc:Nat} {ls:List (List It)} (h:IzV b t w (.slice a ls.length cc) vs ls) {i:Nat} (hi:i<ls.length):∃ sk off ak c,a=some ⟨sk,off,none⟩∧w.cell? ⟨sk,off+i,none⟩=some (.slice ak (izAt ls i).length c)∧izV vs i = .slice ak (izAt ls i).length c:=by
 have hl:=h.len
 obtain ⟨g,off,rfl,h1,h2,h3⟩:=h.outer.some (by intro e;rw [e] at hl;simp at hl;omega)
 obtain ⟨ak,ck,e,hc⟩:=h.cap i hi
 refine ⟨g,off,ak,ck,rfl,?_,e⟩
 rw [(h.outer.cells i (by omega)).1,← e]
 unfold izV
 rw [List.getElem?_eq_getElem (by omega)]
 rfl
end
section
variable {b B:Nat} {w w':World} {x:Ga} {vs:List Value} {rs:List Fwr} {g:Gt}
theorem IzG.putTm {v:Value} {ls:List (List It)} (h:IzG b v vs ls w) {i k sk m c:Nat} (hi:i<ls.length) (hk:k<(izAt ls i).length) (e:izV vs i = .slice (some ⟨sk,0,none⟩) m c) (n:Int) :
 IzG b v vs (ls.set i ((izAt ls i).set k (imv n (itAt (izAt ls i) k)))) (w.setCell ⟨sk,k*3+2,none⟩ (.int .i64 ((itAt (izAt ls i) k).tm+n))):=by
 have nw:izAt (ls.set i ((izAt ls i).set k (imv n (itAt (izAt ls i) k)))) i=(izAt ls i).set k (imv n (itAt (izAt ls i) k)):=by unfold izAt;rw [List.getElem?_set_self hi];rfl
 have od:∀ j,j≠i→izAt (ls.set i ((izAt ls i).set k (imv n (itAt (izAt ls i) k)))) j=izAt ls j:=fun j hj=>by unfold izAt;rw [List.getElem?_set_ne (fun e=>hj e.symm)]
 have oth:∀ y,y≠sk→(w.setCell ⟨sk,k*3+2,none⟩ (.int .i64 ((itAt (izAt ls i) k).tm+n))).heap[y]? = w.heap[y]? := fun y hy=>Below.heap_setCell _ _ _ _ hy
 have hb:(izV vs i).ownBlock=some sk:=by rw [e];rfl
 have hr:=h.row i hi
 have em:m=(izAt ls i).length:=by
  obtain ⟨a,c',e'⟩:=hr.shape
  rw [e] at e'
  exact (Value.slice.inj e').2.1
 subst em
 refine ⟨?_,by rw [List.length_set];exact h.len,fun j hj=>?_,fun j j' y hj hj'=>?_⟩
 ·rw [List.length_set]
  exact rows_carry h.outer fun y hy _=>oth y fun q=>rows_unlike h.outer hr izTypes y hy (by rw [q];exact hb)
 ·rw [List.length_set] at hj
  by_cases hji:j=i
  ·subst hji
   rw [nw]
   have p:w.ownsRow b 80 3 (.slice (some ⟨sk,0,none⟩) (izAt ls j).length c) (izAt ls j).length (itcells (izAt ls j)):=by rw [← e];exact hr
   have q:=(p.stored (k*3+2) (.int .i64 ((itAt (izAt ls j) k).tm+n))).1
   rw [itcells_tm _ _ _ hk] at q
   unfold ItRow
   rw [List.length_set,e]
   exact q
  ·rw [od j hji]
   exact (h.row j hj).carry fun y hy _=>oth y fun q=>h.apart j i y hj hi hji hy (by rw [q];exact hb)
 ·rw [List.length_set] at hj hj'
  exact h.apart j j' y hj hj'
theorem IzG.header {a:Option Addr} {cc:Nat} {ls:List (List It)} (h:IzG b (.slice a ls.length cc) vs ls w) {i:Nat} (hi:i<ls.length):∃ sk ak c,a=some ⟨sk,0,none⟩∧w.cell? ⟨sk,i,none⟩=some (.slice ak (izAt ls i).length c)∧izV vs i = .slice ak (izAt ls i).length c:=by
 have hl:=h.len
 have ho:=h.outer
 obtain ⟨ak,ck,e⟩:=(h.row i hi).shape
 rcases ho.2 with ⟨e0,hn⟩|⟨g0,cap,cur,e0,_⟩
 ·omega
 ·obtain ⟨ea,-,ec⟩:=Value.slice.inj e0
  subst ea
  refine ⟨g0,ak,ck,rfl,?_,e⟩
  rw [World.ownsRow.cellAt ho i (by omega),← e]
  unfold izV
  rw [List.getElem?_eq_getElem (by omega)]
  rfl
theorem IzG.tmSpot {v:Value} {ls:List (List It)} (h:IzG b v vs ls w) {i k:Nat} (hi:i<ls.length) (hk:k<(izAt ls i).length):∃ sk c,izV vs i = .slice (some ⟨sk,0,none⟩) (izAt ls i).length c∧(b≤sk∧sk<w.heap.size)∧w.cell? ⟨sk,k*3+2,none⟩=some (.int .i64 (itAt (izAt ls i) k).tm)∧w.frozen? ⟨sk,k*3+2,none⟩=false:=by
 have hr:=h.row i hi
 have hl:=itcells_length (izAt ls i)
 obtain ⟨g0,c0,e⟩:=hr.some (fun e=>by
  obtain ⟨a,c,e'⟩:=hr.shape
  rw [e] at e'
  have:=(Value.slice.inj e').2.1
  omega)
 have hr':w.ownsRow b 80 3 (.slice (some ⟨g0,0,none⟩) (izAt ls i).length c0) (izAt ls i).length (itcells (izAt ls i)):=by rw [← e];exact hr
 have c2:=hr'.cellAt (k*3+2) (by omega)
 rw [(itcells_get _ k hk).2.2] at c2
 exact ⟨g0,c0,e,hr'.lt g0 rfl,c2,hr'.frozenAt _⟩
theorem GtO.putIt (h:GtO b w x vs rs g) {ls:List (List It)} {sk:Nat} {j:Nat} (hj:j<g.rows.lists.length) (hb:(izV vs j).ownBlock=some sk) (r:IzG b (.slice x.a5 ls.length x.c5) vs ls w') (q:∀ k,k≠sk→k<w.heap.size→w'.heap[k]? = w.heap[k]?):GtO b w' x vs rs { g with rows:=⟨g.rows.most,ls⟩ }:=by
 have hr:=h.rows.row j hj
 have un:∀ {e:TypeId} {c n:Nat} {v:Value} {xs:List Value},w.ownsRow b e c v n xs→80≠e→∀ k,v.ownBlock=some k→k<w.heap.size→w'.heap[k]? = w.heap[k]? := fun hr2 hne k hk hl=>q k (fun e=>rows_unlike hr hr2 hne sk hb (by rw [← e];exact hk)) hl
 exact ⟨h.routes.carry (un h.routes (by decide)),h.rules.carry (un h.rules (by decide)),h.tree.carry (un h.tree (by decide)),irow_carry h.leaves (un h.leaves (by decide)),r,h.steers.carry (un h.steers (by decide)),h.fair.carry (un h.fair.outer (by decide)) (fun i k hi=>un (h.fair.row i hi) (by decide) k),h.apart⟩
theorem Gt.cells_lists {l l':List (List It)} {mo:Int} (hl:l'.length=l.length):({ g with rows:=⟨mo,l'⟩ }:Gt).cells x=({ g with rows:=⟨mo,l⟩ }:Gt).cells x:=by
 unfold Gt.cells
 simp only [hl]
theorem GtB.putIt {ls:List (List It)} {mo:Int} (h:GtB b B w x vs rs { g with rows:=⟨mo,ls⟩ }) {j k sk m c:Nat} (hj:j<ls.length) (hk:k<(izAt ls j).length) (e:izV vs j = .slice (some ⟨sk,0,none⟩) m c) (n:Int) :
 GtB b B (w.setCell ⟨sk,k*3+2,none⟩ (.int .i64 ((itAt (izAt ls j) k).tm+n))) x vs rs { g with rows:=⟨mo,ls.set j ((izAt ls j).set k (imv n (itAt (izAt ls j) k)))⟩ }:=by
 have hb:(izV vs j).ownBlock=some sk:=by rw [e];rfl
 have hne:B≠sk:=fun e=>gate_off h.box (h.own.rows.row j hj) (by decide) (by rw [hb,e])
 have p:=IzG.putTm h.own.rows hj hk e n
 refine ⟨?_,h.own.putIt (ls:=ls.set j ((izAt ls j).set k (imv n (itAt (izAt ls j) k)))) hj hb (by rw [List.length_set];exact p) fun y hy _=>Below.heap_setCell _ _ _ _ hy⟩
 rw [Gt.cells_lists (l:=ls) (l':=ls.set j ((izAt ls j).set k (imv n (itAt (izAt ls j) k)))) (List.length_set ..)]
 exact h.box.far hne _ _
end
end Go.Proofs.YtmfabeghfdoibaaGreat
