import Derived.Test.YtgebghkcikmfaaaGreatDoorQP23GtFn
import Derived.Test.YtgebghkcikmfaaaGreatDoorQP20FsCopyS
namespace Go.Proofs.YtgebghkcikmfaaaGreatDoor
open Go.RowKit
def Gt.zero:Gt:=⟨⟨0,0,0⟩,[],[],[],[],⟨0,[]⟩,[],⟨0,[]⟩,0,0⟩
theorem Gt.head_iff {g:Gt}:g.head=true↔g.ln.ok=true∧rtsOk g.routes=true∧rusOk g.rules=true∧tok g.tree=true∧(1≤g.leaves.length∧g.leaves.length≤8)∧g.rows.ok=true∧g.rows.lists.length=g.leaves.length∧g.steers.length=g.leaves.length∧g.fair.ok=true∧g.fair.flows.length=g.leaves.length∧(1≤g.next∧g.next≤1000000)∧0≤g.draw∧g.draw≤1048575:=by
 unfold Gt.head
 simp only [Bool.and_eq_true,decide_eq_true_eq,inB_true]
 constructor
 ·rintro ⟨a,b,c,d,e,f,g,h,i,j,k,l,m⟩
  exact ⟨a,b,c,d,⟨e,f⟩,g,h,i,j,k,l,m.1,m.2⟩
 ·rintro ⟨a,b,c,d,⟨e,f⟩,g,h,i,j,k,l,m⟩
  exact ⟨a,b,c,d,e,f,g,h,i,j,k,l,m⟩
theorem Gt.leaf_iff {g:Gt} {i:Nat}:g.leafB i=true↔(0≤g.leaves[i]?.getD 0∧g.leaves[i]?.getD 0<(g.tree.length:Int))∧(i=0∨g.leaves[i-1]?.getD 0<g.leaves[i]?.getD 0)∧(srAt g.steers i).ok=true∧(fwAt g.fair.flows i).sizes.length=(izAt g.rows.lists i).length∧∀ k,k<(izAt g.rows.lists i).length→(itAt (izAt g.rows.lists i) k).id<g.next∧g.ln.takes (itAt (izAt g.rows.lists i) k).size=(fwAt g.fair.flows i).sizes[k]?.getD 0:=by
 unfold Gt.leafB Gt.itemB
 simp only [Bool.and_eq_true,Bool.or_eq_true,decide_eq_true_eq,List.all_eq_true,List.mem_range]
 constructor
 ·rintro ⟨a,b,c,d,e,f⟩
  exact ⟨⟨a,b⟩,c,d,e,f⟩
 ·rintro ⟨⟨a,b⟩,c,d,e,f⟩
  exact ⟨a,b,c,d,e,f⟩
theorem Gt.zero_big:Gt.zero.big=0:=rfl
theorem Gt.cells_size (g:Gt) (x:Ga):(g.cells x).size=14:=rfl
theorem Gt.cells_one (g:Gt) (x:Ga):(g.cells x).all (·.oneCell')=true:=by simp [Gt.cells,Value.oneCell']
theorem GtO.zero (b:Nat) (w:World):GtO b w ⟨none,0,none,0,none,0,none,0,none,0,none,0,none,0⟩ [] [] Gt.zero :=
 ⟨World.ownsRow_nil _ _ _ _,World.ownsRow_nil _ _ _ _,World.ownsRow_nil _ _ _ _,World.ownsRow_nil _ _ _ _,IzG.nil _ _,World.ownsRow_nil _ _ _ _,FwG.nil _ _,fun i k hi=>by simp [Gt.zero] at hi⟩
theorem GtLie.zero (b:Nat) (w:World):GtLie b w.heap.size w (.agg #[.int .i64 0,.int .i64 0,.int .i64 0,.slice none 0 0,.slice none 0 0,.slice none 0 0,.slice none 0 0,.int .i64 0,.slice none 0 0,.slice none 0 0,.int .i64 0,.slice none 0 0,.int .i64 0,.int .i64 0]) Gt.zero:=(GtO.zero b w).lie
def Rw.putL (r:Rw) (j:Nat) (l:List It):Rw:=⟨r.most,r.lists.set j l⟩
theorem parts {r:Rw} {j:Nat} (hj:j<r.lists.length):∃ A B,r.all=A++(izAt r.lists j++B)∧∀ l,(r.putL j l).all=A++(l++B):=by
 refine ⟨(r.lists.take j).flatten,(r.lists.drop (j+1)).flatten,?_,fun l=>?_⟩
 ·have e:r.lists=r.lists.take j++izAt r.lists j :: r.lists.drop (j+1):=by
   rw [izAt_lt hj,← List.drop_eq_getElem_cons hj,List.take_append_drop]
  unfold Rw.all
  conv=>lhs;rw [e]
  simp only [List.flatten_append,List.flatten_cons]
 ·have e2:r.lists.set j l=r.lists.take j++l :: r.lists.drop (j+1):=List.set_eq_take_append_cons_drop.trans (if_pos hj)
  unfold Rw.all Rw.putL
  rw [e2]
  simp only [List.flatten_append,List.flatten_cons]
theorem putL_len (r:Rw) (j:Nat) (l:List It):(r.putL j l).lists.length=r.lists.length:=by unfold Rw.putL;simp
theorem ok_small {r:Rw} (h:r.ok=true):r.big≤216:=by
 have g:=Rw.ok_iff.1 h
 have h1:=g.2.2.2.2
 have h2:=g.1.2
 have h3:=g.2.1.2
 unfold Rw.big
 rw [← all_length]
 omega
theorem ok_less {r:Rw} (h:r.ok=true) {j:Nat} (hj:j<r.lists.length) (k:Nat):(r.putL j ((izAt r.lists j).drop k)).ok=true:=by
 obtain ⟨A,B,e1,e2⟩:=parts hj
 have g:=Rw.ok_iff.1 h
 rw [Rw.ok_iff]
 have hm:(r.putL j ((izAt r.lists j).drop k)).most=r.most:=rfl
 refine ⟨g.1,by rw [putL_len];exact g.2.1,?_⟩
 rw [hm,e2]
 have gg:=g.2.2
 rw [e1] at gg
 have hs:(A++((izAt r.lists j).drop k++B)).Sublist (A++(izAt r.lists j++B)):=(List.Sublist.refl A).append ((List.drop_sublist k _).append (List.Sublist.refl B))
 refine ⟨fun x hx=>gg.1 x (hs.subset hx),gg.2.1.sublist (hs.map _),?_⟩
 have:=hs.length_le
 have:=gg.2.2
 omega
theorem paid_is {l:List Nd} {n size:Int} (h:can l n size=true):tok l=true∧(paid l n size).length=l.length∧∀ k,k<l.length→ndAt (paid l n size) k=if (k:Int)∈path l n then (ndAt l k).less size else ndAt l k:=by
 obtain ⟨h1,h2,h3⟩:=can_iff.1 h
 obtain ⟨g1,g2,g3⟩:=tin_iff.1 h1
 have e:paid l n size=payP l size (path l n):=by unfold paid;rw [if_pos g1,if_pos h]
 rw [e]
 exact ⟨g1,payP_len _ _ _,fun k hk=>payP_at size _ l (path_nodup g1 (by omega) g3) (fun x hx=>by have:=path_mem g1 (by omega) g3 x hx;omega) k hk⟩
theorem less_ok {x:Nd} {size:Int} (h:x.pz.ok=true) (h0:0≤size) (h1:size≤x.pz.level):(x.less size).pz.ok=true:=by
 rw [Pz.ok_iff] at h ⊢
 unfold Nd.less
 simp only
 omega
theorem paid_tok {l:List Nd} {n size:Int} (h:can l n size=true):tok (paid l n size)=true:=by
 obtain ⟨p1,p2,p3⟩:=paid_is h
 obtain ⟨h1,h2,h3⟩:=can_iff.1 h
 have t:=tok_iff.1 p1
 rw [tok_iff,p2]
 refine ⟨t.1,t.2.1,fun k hk=>?_⟩
 have e:=treeB_iff.1 (t.2.2 k hk)
 rw [treeB_iff,p3 k hk,p3 0 (by omega)]
 have tm0:(if ((0:Nat):Int)∈path l n then (ndAt l 0).less size else ndAt l 0).pz.tm=(ndAt l 0).pz.tm:=by split<;>rfl
 rw [tm0]
 by_cases g:(k:Int)∈path l n
 ·rw [if_pos g]
  refine ⟨less_ok e.1 h2 ?_,e.2.1,e.2.2.1,e.2.2.2⟩
  have:=h3 _ g
  rwa [Int.toNat_natCast] at this
 ·rw [if_neg g]
  exact e
theorem izAt_set {l:List (List It)} {i j:Nat} {x:List It} (hi:i<l.length):izAt (l.set i x) j=if i=j then x else izAt l j:=by
 unfold izAt
 rw [List.getElem?_set]
 by_cases h:i=j
 ·subst h;simp [hi]
 ·simp [h]
theorem fwAt_set' {l:List Fw} {i j:Nat} {x:Fw} (hi:i<l.length):fwAt (l.set i x) j=if i=j then x else fwAt l j:=by
 unfold fwAt
 rw [List.getElem?_set]
 by_cases h:i=j
 ·subst h;simp [hi]
 ·simp [h]
theorem srAt_set {l:List Sr} {i j:Nat} {x:Sr} (hi:i<l.length):srAt (l.set i x) j=if i=j then x else srAt l j:=by
 unfold srAt
 rw [List.getElem?_set]
 by_cases h:i=j
 ·subst h;simp [hi]
 ·simp [h]
def Gt.stay (g:Gt) (x:It):Int:=max 0 (min 100000 ((ndAt g.tree 0).pz.tm-x.tm))
def Gt.go (g:Gt) (i:Nat):Gt:={ g with
 tree:=payP g.tree (szAt (fwAt g.fair.flows i).sizes 0) (path g.tree (g.leaves[i]?.getD 0))
 rows:=g.rows.putL i ((izAt g.rows.lists i).drop 1)
 steers:=g.steers.set i ((srAt g.steers i).stir (g.stay (itAt (izAt g.rows.lists i) 0)))
 fair:=g.fair.serve i }
theorem Gt.go_ok {g:Gt} {i:Nat} (h:g.ok=true) (hi:i<g.leaves.length) (hw:g.fair.waits i=true) (he:g.fair.endOf i≤1125899906842624) (hc:can g.tree (g.leaves[i]?.getD 0) (szAt (fwAt g.fair.flows i).sizes 0)=true):(g.go i).ok=true:=by
 obtain ⟨hh,hl⟩:=Gt.ok_iff.1 h
 obtain ⟨a1,a2,a3,a4,a5,a6,a7,a8,a9,a10,a11,a12⟩:=Gt.head_iff.1 hh
 have hiL:i<g.rows.lists.length:=by omega
 have hiF:i<g.fair.flows.length:=by omega
 have hiS:i<g.steers.length:=by omega
 have ep:paid g.tree (g.leaves[i]?.getD 0) (szAt (fwAt g.fair.flows i).sizes 0)=payP g.tree (szAt (fwAt g.fair.flows i).sizes 0) (path g.tree (g.leaves[i]?.getD 0)):=by
  unfold paid
  rw [if_pos a4,if_pos hc]
 have tk:=paid_tok hc
 rw [ep] at tk
 have hst:inB 0 100000 (g.stay (itAt (izAt g.rows.lists i) 0))=true:=by
  rw [inB_true]
  unfold Gt.stay
  omega
 refine Gt.ok_iff.2 ⟨Gt.head_iff.2 ⟨a1,a2,a3,tk,a5,ok_less a6 hiL 1,?_,?_,Fs.serve_ok a9 hiF hw he,?_,a11,a12⟩,fun j hj=>?_⟩
 ·show (g.rows.putL _ _).lists.length=_
  rw [putL_len];exact a7
 ·show (g.steers.set _ _).length=_
  rw [List.length_set];exact a8
 ·show (g.fair.flows.set _ _).length=_
  rw [List.length_set];exact a10
 ·have q:=Gt.leaf_iff.1 (hl j hj)
  refine Gt.leaf_iff.2 ⟨⟨q.1.1,?_⟩,q.2.1,?_,?_,?_⟩
  ·show _<((payP g.tree _ _).length:Int)
   rw [payP_len];exact q.1.2
  ·show (srAt (g.steers.set i _) j).ok=true
   rw [srAt_set hiS]
   by_cases e:i=j
   ·subst e
    rw [if_pos rfl]
    exact Sr.stir_ok q.2.2.1 hst
   ·rw [if_neg e];exact q.2.2.1
  ·show (fwAt (g.fair.flows.set i _) j).sizes.length=(izAt (g.rows.lists.set i _) j).length
   rw [fwAt_set' hiF,izAt_set hiL]
   by_cases e:i=j
   ·subst e
    rw [if_pos rfl,if_pos rfl]
    simp only [List.length_drop]
    rw [q.2.2.2.1]
   ·rw [if_neg e,if_neg e];exact q.2.2.2.1
  ·show ∀ k,k<(izAt (g.rows.lists.set i _) j).length→(itAt (izAt (g.rows.lists.set i _) j) k).id<g.next∧g.ln.takes (itAt (izAt (g.rows.lists.set i _) j) k).size=(fwAt (g.fair.flows.set i _) j).sizes[k]?.getD 0
   rw [fwAt_set' hiF,izAt_set hiL]
   by_cases e:i=j
   ·subst e
    rw [if_pos rfl,if_pos rfl]
    intro k hk
    rw [List.length_drop] at hk
    have e1:itAt ((izAt g.rows.lists i).drop 1) k=itAt (izAt g.rows.lists i) (1+k):=by
     unfold itAt
     rw [List.getElem?_drop]
    have e2:((fwAt g.fair.flows i).sizes.drop 1)[k]?.getD 0=(fwAt g.fair.flows i).sizes[1+k]?.getD 0:=by
     rw [List.getElem?_drop]
    have:=q.2.2.2.2 (1+k) (by omega)
    rw [e1]
    refine ⟨this.1,?_⟩
    rw [this.2]
    exact e2.symm
   ·rw [if_neg e,if_neg e]
    exact q.2.2.2.2
def Fs.bestP (f:Fs) (p:Nat→Bool):Nat→Int
 |0 => -1
 |k+1=>if (f.waits k&&(p k&&(decide (f.bestP p k<0)||decide (f.beg k<f.beg (f.bestP p k).toNat))))=true then (k:Int) else f.bestP p k
def Fs.leastP (f:Fs) (p:Nat→Bool) (k:Nat):Int:=if f.bestP p k<0 then -1 else f.beg (f.bestP p k).toNat
theorem Fs.bestP_in (f:Fs) (p:Nat→Bool) (k:Nat) : -1≤f.bestP p k∧f.bestP p k<k:=by
 induction k with
 |zero=>exact ⟨Int.le_refl _,by show (-1:Int)<((0:Nat):Int);omega⟩
 |succ k ih =>
  unfold Fs.bestP
  split<;>omega
theorem fwSum_le {l:List Fw} (h:∀ i,i<l.length→(fwAt l i).sizes.length≤40) (k:Nat) (hk:k≤l.length):fwSum l k≤40*k:=by
 induction k with
 |zero=>rw [fwSum_zero];omega
 |succ k ih =>
  have h1:=ih (by omega)
  have h2:=h k (by omega)
  rw [fwSum_succ (by omega)]
  omega
theorem Fs.ok_big {f:Fs} (hk:f.ok=true):f.big≤328:=by
 have h1:=(Fs.ok_iff.1 hk).2.1
 have h2:=fwSum_le (l:=f.flows) (fun i hi=>(Fw.ok_iff.1 (Fs.ok_at hk hi)).2.2.1) f.flows.length nlr
 unfold Fs.big
 omega
theorem Rw.ok_big {r:Rw} (h:r.ok=true):r.big≤216:=by
 have e:=all_length r
 unfold Rw.ok at h
 simp only [Bool.and_eq_true,inB_true,decide_eq_true_eq] at h
 obtain ⟨⟨h1,h2⟩,h3,h4,h5⟩:=h
 unfold Rw.big
 omega
theorem rtsOk_short {l:List Rt} (h:rtsOk l=true):l.length≤64:=by
 unfold rtsOk at h
 simp only [Bool.and_eq_true,decide_eq_true_eq] at h
 exact h.1
theorem rusOk_short {l:List Ru} (h:rusOk l=true):l.length≤40:=by
 unfold rusOk at h
 simp only [Bool.and_eq_true,decide_eq_true_eq] at h
 exact h.1
theorem Gt.ok_big {g:Gt} (h:g.ok=true):g.big≤700:=by
 obtain ⟨a1,a2,a3,a4,a5,a6,a7,a8,a9,a10,-⟩:=Gt.head_iff.1 (Gt.ok_iff.1 h).1
 have h1:=rtsOk_short a2
 have h2:=rusOk_short a3
 have h3:=tok_iff.1 a4
 have h4:=Rw.ok_big a6
 have h5:=Fs.ok_big a9
 unfold Gt.big
 omega
def Gt.may (g:Gt) (i:Nat):Bool:=can g.tree (g.leaves[i]?.getD 0) (szAt (fwAt g.fair.flows i).sizes 0)
def Gt.best (g:Gt):Int:=g.fair.bestP g.may g.fair.flows.length
def Gt.outB (g:Gt):Bool:=decide (0≤g.best)&&decide (g.fair.endOf g.best.toNat≤1125899906842624)
def Gt.out (g:Gt):Gt:=if g.outB=true then g.go g.best.toNat else g
def Gt.outI (g:Gt):It:=if g.outB=true then itAt (izAt g.rows.lists g.best.toNat) 0 else ⟨0,0,0⟩
def Gt.outL (g:Gt):Int:=if g.outB=true then g.best else -1
theorem Fs.bestP_is (f:Fs) (p:Nat→Bool) (k:Nat):f.bestP p k = -1∨∃ b:Nat,f.bestP p k=b∧b<k∧f.waits b=true∧p b=true:=by
 induction k with
 |zero=>exact .inl rfl
 |succ k ih =>
  unfold Fs.bestP
  split
  ·rename_i h
   simp only [Bool.and_eq_true] at h
   exact .inr ⟨k,rfl,Nat.lt_succ_self _,h.1,h.2.1⟩
  ·rcases ih with h|⟨b,h1,h2,h3,h4⟩
   ·exact .inl h
   ·exact .inr ⟨b,h1,by omega,h3,h4⟩
theorem Gt.best_is (g:Gt):g.best = -1∨∃ b:Nat,g.best=b∧b<g.fair.flows.length∧g.fair.waits b=true∧g.may b=true:=Fs.bestP_is _ _ _
theorem Gt.out_ok {g:Gt} (h:g.ok=true):g.out.ok=true:=by
 unfold Gt.out
 split
 ·rename_i ho
  unfold Gt.outB at ho
  simp only [Bool.and_eq_true,decide_eq_true_eq] at ho
  rcases g.best_is with e|⟨b,e,h1,h2,h3⟩
  ·omega
  ·rw [e,Int.toNat_natCast] at ho ⊢
   have hd:=Gt.head_iff.1 (Gt.ok_iff.1 h).1
   exact Gt.go_ok h (by have:=hd.2.2.2.2.2.2.2.2.2.1;omega) h2 ho.2 h3
 ·exact h
structure GtB (b B:Nat) (w:World) (x:Ga) (vs:List Value) (rs:List Fwr) (g:Gt):Prop where
 box:Boxed w B (g.cells x) 50
 own:GtO b w x vs rs g
section
variable {b B:Nat} {w w':World} {x:Ga} {vs:List Value} {rs:List Fwr} {g:Gt}
theorem GtB.below (h:GtB b B w x vs rs g) (q:Bel w w'):GtB b B w' x vs rs g:=⟨h.box.below h.box.under q,h.own.below q⟩
theorem gate_off {e:TypeId} {c n:Nat} {v:Value} {xs:List Value} (h:Boxed w B (g.cells x) 50) (r:w.ownsRow b e c v n xs) (hne:50≠e):v.ownBlock≠some B:=by
 intro hk
 rcases r.2 with ⟨rfl,_⟩|⟨k,cap,cur,rfl,_,hg,_⟩
 ·cases hk
 ·cases hk
  unfold Boxed at h
  rw [h] at hg
  simp only [Option.some.injEq,Obj.cells.injEq] at hg
  exact hne hg.2.1
theorem irow_carry {v:Value} {l:List Int} (h:IRow b w v l) (q:∀ k,v.ownBlock=some k→k<w.heap.size→w'.heap[k]? = w.heap[k]?):IRow b w' v l:=by
 refine ⟨h.1,h.2.imp id ?_⟩
 rintro ⟨k,cap,cur,h1,h2,h3,h4⟩
 exact ⟨k,cap,cur,h1,h2,by rw [q k (by rw [h1];rfl) (Array.getElem?_eq_some_iff.1 h3).1];exact h3,h4⟩
theorem IzG.carry {v:Value} {ls:List (List It)} (h:IzG b v vs ls w) (q1:∀ k,v.ownBlock=some k→k<w.heap.size→w'.heap[k]? = w.heap[k]?) (q2:∀ i k,i<ls.length→(izV vs i).ownBlock=some k→k<w.heap.size→w'.heap[k]? = w.heap[k]?):IzG b v vs ls w' :=
 ⟨rows_carry h.outer q1,h.len,fun i hi=>(h.row i hi).carry fun k hk hl=>q2 i k hi hk hl,h.apart⟩
theorem FwG.carry {v:Value} {l:List Fw} (h:FwG b v rs l w) (q1:∀ k,v.ownBlock=some k→k<w.heap.size→w'.heap[k]? = w.heap[k]?) (q2:∀ i k,i<l.length→(fwrAt rs i).hd.ownBlock=some k→k<w.heap.size→w'.heap[k]? = w.heap[k]?):FwG b v rs l w' :=
 ⟨rows_carry h.outer q1,h.len,h.num,fun i hi=>irow_carry (h.row i hi) fun k hk hl=>q2 i k hi hk hl,h.apart⟩
theorem GtO.putTree (h:GtO b w x vs rs g) {l:List Nd} {gt:Nat} (ht:(Value.slice x.a3 g.tree.length x.c3).ownBlock=some gt) (r:NdRow b w' (.slice x.a3 l.length x.c3) l) (q:∀ k,k≠gt→k<w.heap.size→w'.heap[k]? = w.heap[k]?):GtO b w' x vs rs { g with tree:=l }:=by
 have un:∀ {e:TypeId} {c n:Nat} {v:Value} {xs:List Value},w.ownsRow b e c v n xs→130≠e→∀ k,v.ownBlock=some k→k<w.heap.size→w'.heap[k]? = w.heap[k]? := fun hr hne k hk hl=>q k (fun e=>rows_unlike h.tree hr hne gt ht (by rw [← e];exact hk)) hl
 exact ⟨h.routes.carry (un h.routes (by decide)),h.rules.carry (un h.rules (by decide)),r,irow_carry h.leaves (un h.leaves (by decide)),h.rows.carry (un h.rows.outer (by decide)) (fun i k hi=>un (h.rows.row i hi) (by decide) k),h.steers.carry (un h.steers (by decide)),h.fair.carry (un h.fair.outer (by decide)) (fun i k hi=>un (h.fair.row i hi) (by decide) k),h.apart⟩
theorem Gt.cells_tree {l l':List Nd} (hl:l'.length=l.length):({ g with tree:=l' }:Gt).cells x=({ g with tree:=l }:Gt).cells x:=by
 unfold Gt.cells
 simp only [hl]
theorem GtB.putTree {l l':List Nd} {gt:Nat} (h:GtB b B w x vs rs { g with tree:=l }) (hl:l'.length=l.length) (ea:x.a3=some ⟨gt,0,none⟩) (r:NdRow b w' (.slice (some ⟨gt,0,none⟩) l'.length x.c3) l') (q:∀ k,k≠gt→k<w.heap.size→w'.heap[k]? = w.heap[k]?):GtB b B w' x vs rs { g with tree:=l' }:=by
 have hb:(Value.slice x.a3 l.length x.c3).ownBlock=some gt:=by rw [ea];rfl
 have hne:B≠gt:=fun e=>gate_off h.box h.own.tree (by decide) (by rw [e];exact hb)
 refine ⟨?_,h.own.putTree (l:=l') (gt:=gt) hb (by rw [ea];exact r) q⟩
 rw [Gt.cells_tree hl]
 exact (q B hne h.box.under).trans h.box
end
theorem payP_tm (size:Int) (k:Nat):∀ (p:List Int) (l:List Nd),(ndAt (payP l size p) k).pz.tm=(ndAt l k).pz.tm
 |[],l=>rfl
 |x :: p,l=>by
  rw [payP,payP_tm size k p]
  unfold ndAt
  rw [List.getElem?_set]
  by_cases h:x.toNat=k
  ·subst h
   rw [if_pos rfl]
   by_cases h2:x.toNat<l.length
   ·rw [if_pos h2,List.getElem?_eq_getElem h2]
    rfl
   ·rw [if_neg h2,List.getElem?_eq_none (by omega)]
  ·rw [if_neg h]
theorem izV_set_self {vs:List Value} {j:Nat} {u:Value} (h:j<vs.length):izV (vs.set j u) j=u:=by
 unfold izV
 rw [List.getElem?_set_self h]
 rfl
theorem izV_set_ne {vs:List Value} {i j:Nat} {u:Value} (h:i≠j):izV (vs.set j u) i=izV vs i:=by
 unfold izV
 rw [List.getElem?_set_ne (fun e=>h e.symm)]
theorem out_nums {g:Gt} {i:Nat} (h:g.ok=true) (hi:i<g.rows.lists.length) (hm:0<(izAt g.rows.lists i).length):(0≤(itAt (izAt g.rows.lists i) 0).tm∧(itAt (izAt g.rows.lists i) 0).tm≤1099511627776)∧0≤(ndAt g.tree 0).pz.tm∧(ndAt g.tree 0).pz.tm≤1099511627776:=by
 obtain ⟨-,-,-,k4,-,k6,-⟩:=Gt.head_iff.1 (Gt.ok_iff.1 h).1
 refine ⟨?_,?_⟩
 ·obtain ⟨A,B,e,-⟩:=parts hi
  have hg:=(Rw.ok_iff.1 k6).2.2.1 (itAt (izAt g.rows.lists i) 0) (by
   rw [e]
   refine List.mem_append_right _ (List.mem_append_left _ ?_)
   unfold itAt
   rw [List.getElem?_eq_getElem hm]
   exact List.getElem_mem _)
  unfold It.ok at hg
  simp only [Bool.and_eq_true,inB_true] at hg
  exact hg.2.2
 ·have ht:=tok_iff.1 k4
  have hz:=(treeB_iff.1 (ht.2.2 0 (by omega))).1
  unfold Pz.ok at hz
  simp only [Bool.and_eq_true,inB_true] at hz
  omega
section
variable {b B:Nat} {w:World} {x:Ga} {vs:List Value} {rs:List Fwr} {g:Gt}
theorem GtB.putSteer (h:GtB b B w x vs rs g) {sk:Nat} (ea:x.a6=some ⟨sk,0,none⟩) (j:Nat) (r:Sr) :
 GtB b B (((w.setCell ⟨sk,j*3,none⟩ (.int .i64 r.target)).setCell ⟨sk,j*3+1,none⟩ (.int .i64 r.old)).setCell ⟨sk,j*3+2,none⟩ (.int .i64 r.prob)) x vs rs { g with steers:=g.steers.set j r }:=by
 have hro:(Value.slice x.a6 g.steers.length x.c6).ownBlock=some sk:=by rw [ea];rfl
 have q2:∀ k,k≠sk→(((w.setCell ⟨sk,j*3,none⟩ (.int .i64 r.target)).setCell ⟨sk,j*3+1,none⟩ (.int .i64 r.old)).setCell ⟨sk,j*3+2,none⟩ (.int .i64 r.prob)).heap[k]? = w.heap[k]? := fun k hk =>
  ((Below.heap_setCell _ _ _ _ hk).trans (Below.heap_setCell _ _ _ _ hk)).trans (Below.heap_setCell _ _ _ _ hk)
 have un:∀ {e:TypeId} {c n:Nat} {v:Value} {xs:List Value},w.ownsRow b e c v n xs→114≠e→∀ k,v.ownBlock=some k→k<w.heap.size→(((w.setCell ⟨sk,j*3,none⟩ (.int .i64 r.target)).setCell ⟨sk,j*3+1,none⟩ (.int .i64 r.old)).setCell ⟨sk,j*3+2,none⟩ (.int .i64 r.prob)).heap[k]? = w.heap[k]? := fun r2 n1 k hk _ =>
  q2 k (fun e=>rows_unlike h.own.steers r2 n1 sk hro (by rw [← e];exact hk))
 refine ⟨?_,h.own.routes.carry (un h.own.routes (by decide)),h.own.rules.carry (un h.own.rules (by decide)),h.own.tree.carry (un h.own.tree (by decide)),irow_carry h.own.leaves (un h.own.leaves (by decide)),h.own.rows.carry (un h.own.rows.outer (by decide)) (fun i k hi=>un (h.own.rows.row i hi) (by decide) k),?_,h.own.fair.carry (un h.own.fair.outer (by decide)) (fun i k hi=>un (h.own.fair.row i hi) (by decide) k),h.own.apart⟩
 ·have e:({ g with steers:=g.steers.set j r }:Gt).cells x=g.cells x:=by
   unfold Gt.cells
   simp only [List.length_set]
  rw [e]
  exact (q2 B (fun e=>gate_off h.box h.own.steers (by decide) (by rw [e];exact hro))).trans h.box
 ·have hr:w.ownsRow b 114 3 (.slice (some ⟨sk,0,none⟩) g.steers.length x.c6) g.steers.length (srcells g.steers):=by rw [← ea];exact h.own.steers
  have hp:=SrRow.put hr j r
  show SrRow b _ (.slice x.a6 (g.steers.set j r).length x.c6) (g.steers.set j r)
  unfold SrRow
  rw [List.length_set,ea]
  exact hp
end
theorem go_is {g:Gt} {i:Nat} {s0:Int} {pt:List Nd} {l:List It} {it:It} {d:Int} (hs:szAt (fwAt g.fair.flows i).sizes 0=s0) (hp:payP g.tree s0 (path g.tree (g.leaves[i]?.getD 0))=pt) (hl:izAt g.rows.lists i=l) (hi:itAt l 0=it) (hd:d=max 0 (min 100000 ((ndAt g.tree 0).pz.tm-it.tm))) :
 ({ g with fair:=g.fair.serve i,tree:=pt,rows:=⟨g.rows.most,g.rows.lists.set i (l.drop 1)⟩,steers:=g.steers.set i ((srAt g.steers i).stir d) }:Gt)=g.go i:=by
 unfold Gt.go Gt.stay Rw.putL
 rw [hs,hp,hl,hi,hd]
end Go.Proofs.YtgebghkcikmfaaaGreatDoor
