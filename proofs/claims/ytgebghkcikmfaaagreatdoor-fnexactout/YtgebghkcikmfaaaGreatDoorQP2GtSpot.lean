import Derived.Test.YtgebghkcikmfaaaGreatDoorQP1IntV
namespace Go.Proofs.YtgebghkcikmfaaaGreatDoor
open Go.RowKit
structure Sr where
 target:Int
 old:Int
 prob:Int
def Sr.val (r:Sr):Value:=.agg #[.int .i64 r.target,.int .i64 r.old,.int .i64 r.prob]
def Sr.cells (r:Sr):List Value:=[.int .i64 r.target,.int .i64 r.old,.int .i64 r.prob]
theorem srInfo:(Tryz.prog.info? 114).map (fun i=>(i.zero,i.size,i.bytes))=some (some (.agg #[.int .i64 0,.int .i64 0,.int .i64 0]),3,24):=by kernel_rfl
theorem srOnes (v0 v1 v2:Int):(#[Value.int .i64 v0,Value.int .i64 v1,Value.int .i64 v2]:Array Value).all (·.oneCell')=true:=by simp [Value.oneCell']
def srAt (l:List Sr) (k:Nat):Sr:=l[k]?.getD ⟨0,0,0⟩
theorem srAt_lt {l:List Sr} {k:Nat} (h:k<l.length):srAt l k=l[k]:=by simp [srAt,List.getElem?_eq_getElem h]
def SrsAt (w:World) (a:Option Addr) (l:List Sr):Prop :=
 ∀ k,k<l.length→∃ b off,a=some ⟨b,off,none⟩∧b<w.heap.size∧w.cell? ⟨b,off+k*3,none⟩=some (.int .i64 (srAt l k).target)∧w.cell? ⟨b,off+k*3+1,none⟩=some (.int .i64 (srAt l k).old)∧w.cell? ⟨b,off+k*3+2,none⟩=some (.int .i64 (srAt l k).prob)
theorem SrsAt.below {w w':World} {a:Option Addr} {l:List Sr} (h:SrsAt w a l) (g:Bel w w'):SrsAt w' a l:=by
 intro k hk
 obtain ⟨b,off,e,hb,c0,c1,c2⟩:=h k hk
 exact ⟨b,off,e,Nat.lt_of_lt_of_le hb g.size,by rw [g.cell (p:=⟨b,off+k*3,none⟩) hb];exact c0,by rw [g.cell (p:=⟨b,off+k*3+1,none⟩) hb];exact c1,by rw [g.cell (p:=⟨b,off+k*3+2,none⟩) hb];exact c2⟩
theorem SrsAt.alloc {w:World} {a:Option Addr} {l:List Sr} (h:SrsAt w a l) (o:Obj):SrsAt (w.alloc o) a l :=
 h.below ((Below.refl _ _).alloc nlr _)
theorem SrsAt.nil (w:World) (a:Option Addr):SrsAt w a []:=by intro k hk;simp at hk
theorem SrsAt.empty {w:World} {l:List Sr} (h:SrsAt w none l):l=[]:=by
 cases l with
 |nil=>rfl
 |cons z zs=>obtain ⟨b,off,e,_⟩:=h 0 (by simp);cases e
theorem SrsAt.cells {w:World} {b off k:Nat} {l:List Sr} (h:SrsAt w (some ⟨b,off,none⟩) l) (hk:k<l.length):w.cell? ⟨b,off+k*3,none⟩=some (.int .i64 (srAt l k).target)∧w.cell? ⟨b,off+k*3+1,none⟩=some (.int .i64 (srAt l k).old)∧w.cell? ⟨b,off+k*3+2,none⟩=some (.int .i64 (srAt l k).prob):=by
 obtain ⟨b',off',e,_,c⟩:=h k hk
 cases e
 exact c
def srcells (l:List Sr):List Value:=l.flatMap Sr.cells
theorem srcells_cons (r:Sr) (l:List Sr):srcells (r :: l) = .int .i64 r.target :: .int .i64 r.old :: .int .i64 r.prob :: srcells l:=rfl
theorem srcells_append (a b:List Sr):srcells (a++b)=srcells a++srcells b:=by simp [srcells]
theorem srcells_length (l:List Sr):(srcells l).length=l.length*3:=by
 induction l with
 |nil=>rfl
 |cons r l ih=>rw [srcells_cons];simp [ih];omega
theorem srcells_get (l:List Sr) (k:Nat) (hk:k<l.length):(srcells l)[k*3]? = some (.int .i64 (srAt l k).target)∧(srcells l)[k*3+1]? = some (.int .i64 (srAt l k).old)∧(srcells l)[k*3+2]? = some (.int .i64 (srAt l k).prob):=by
 induction l generalizing k with
 |nil=>simp at hk
 |cons r l ih =>
  cases k with
  |zero=>simp [srcells_cons,srAt]
  |succ k =>
   have:=ih k (by simpa using hk)
   rw [show (k+1)*3=k*3+3 by omega]
   simpa [srcells_cons,srAt] using this
theorem srcells_one (l:List Sr):∀ u∈srcells l,u.oneCell'=true:=by
 intro u hu
 induction l with
 |nil=>simp [srcells] at hu
 |cons r l ih =>
  rw [srcells_cons] at hu
  simp only [List.mem_cons] at hu
  rcases hu with rfl|rfl|rfl|hu
  ·rfl
  ·rfl
  ·rfl
  ·exact ih hu
theorem srcells_set (l:List Sr) (k:Nat) (r:Sr):(((srcells l).set (k*3) (.int .i64 r.target)).set (k*3+1) (.int .i64 r.old)).set (k*3+2) (.int .i64 r.prob)=srcells (l.set k r):=by
 induction l generalizing k with
 |nil=>simp [srcells]
 |cons x l ih =>
  cases k with
  |zero=>simp [srcells_cons]
  |succ k =>
   rw [show (k+1)*3=k*3+3 by omega,List.set_cons_succ,srcells_cons,srcells_cons,← ih k]
   rfl
def SrRow (base:Nat) (w:World) (v:Value) (l:List Sr):Prop:=w.ownsRow base 114 3 v l.length (srcells l)
theorem SrRow.carry {base:Nat} {w w':World} {v:Value} {l:List Sr} (h:SrRow base w v l) (g:∀ k,v.ownBlock=some k→k<w.heap.size→w'.heap[k]? = w.heap[k]?):SrRow base w' v l:=by
 refine ⟨h.1,h.2.imp id ?_⟩
 rintro ⟨g0,cap,cur,h1,h2,h3,h4⟩
 exact ⟨g0,cap,cur,h1,h2,by rw [g g0 (by rw [h1];rfl) (Array.getElem?_eq_some_iff.1 h3).1];exact h3,h4⟩
theorem SrRow.shape {base:Nat} {w:World} {v:Value} {l:List Sr} (h:SrRow base w v l):∃ a cap,v = .slice a l.length cap:=by
 rcases h.2 with ⟨rfl,hn⟩|⟨g,cap,cur,rfl,_⟩
 ·rw [hn];exact ⟨none,0,rfl⟩
 ·exact ⟨_,_,rfl⟩
theorem SrRow.cap {base:Nat} {w:World} {a:Option Addr} {c:Nat} {l:List Sr} (h:SrRow base w (.slice a l.length c) l):l.length≤c:=by
 rcases h.2 with ⟨e,hn⟩|⟨g',c',cur,e,_,_,h4,_⟩
 ·omega
 ·cases e;exact h4
theorem SrRow.nilCap {base:Nat} {w:World} {a:Option Addr} {c:Nat} {l:List Sr} (h:SrRow base w (.slice a l.length c) l):a=none→c=0:=by
 intro ha
 subst ha
 rcases h.2 with ⟨e,hn⟩|⟨g',c',cur,e,_⟩
 ·simpa using (Value.slice.inj e).2.2
 ·cases e
theorem SrRow.lt {base:Nat} {w:World} {v:Value} {l:List Sr} (h:SrRow base w v l):∀ k,v.ownBlock=some k→base≤k∧k<w.heap.size:=World.ownsRow.lt h
theorem SrRow.mono {base base':Nat} {w:World} {v:Value} {l:List Sr} (h:SrRow base w v l) (hb:base'≤base):SrRow base' w v l:=⟨h.1,h.2.imp id fun ⟨g,cap,cur,h1,h2,h3⟩=>⟨g,cap,cur,h1,Nat.le_trans hb h2,h3⟩⟩
theorem SrRow.at {base:Nat} {w:World} {a:Option Addr} {cap:Nat} {l:List Sr} (h:SrRow base w (.slice a l.length cap) l):SrsAt w a l:=by
 intro k hk
 rcases h.2 with ⟨_,hn⟩|⟨g,cap',cur,e,h2,h3,h4⟩
 ·omega
 ·obtain ⟨rfl,_,rfl⟩:a=some ⟨g,0,none⟩∧True∧cap=cap':=by simpa using e
  have hc:=World.ownsRow.cellAt (show w.ownsRow base 114 3 (.slice (some ⟨g,0,none⟩) l.length cap) l.length _ from h)
  obtain ⟨e0,e1,e2⟩:=srcells_get l k hk
  exact ⟨g,0,rfl,(Array.getElem?_eq_some_iff.1 h3).1,by rw [Nat.zero_add,hc _ (by omega),e0],by rw [Nat.zero_add,hc _ (by omega),e1],by rw [Nat.zero_add,hc _ (by omega),e2]⟩
theorem SrRow.put {base:Nat} {w:World} {g cap n:Nat} {l:List Sr} (h:w.ownsRow base 114 3 (.slice (some ⟨g,0,none⟩) n cap) n (srcells l)) (k:Nat) (r:Sr) :
 (((w.setCell ⟨g,k*3,none⟩ (.int .i64 r.target)).setCell ⟨g,k*3+1,none⟩ (.int .i64 r.old)).setCell ⟨g,k*3+2,none⟩ (.int .i64 r.prob)).ownsRow base 114 3 (.slice (some ⟨g,0,none⟩) n cap) n (srcells (l.set k r)):=by
 have h1:=(h.stored (k*3) (.int .i64 r.target)).1
 have h2:=(h1.stored (k*3+1) (.int .i64 r.old)).1
 have h3:=(h2.stored (k*3+2) (.int .i64 r.prob)).1
 rw [srcells_set] at h3
 exact h3
theorem srMade (n:Nat):(madeCells #[Value.int .i64 0,.int .i64 0,.int .i64 0] (n*3)).toList=srcells (List.replicate n ⟨0,0,0⟩):=by
 apply List.ext_getElem?
 intro i
 by_cases hi:i<n*3
 ·obtain ⟨k,j,rfl,hj⟩:∃ k j,i=k*3+j∧j<3:=⟨i/3,i%3,by omega,Nat.mod_lt _ (by omega)⟩
  have hk:k<n:=by omega
  obtain ⟨e0,e1,e2⟩:=srcells_get (List.replicate n ⟨0,0,0⟩) k (by simpa using hk)
  have hz:srAt (List.replicate n ⟨0,0,0⟩) k=⟨0,0,0⟩:=by simp [srAt,hk]
  rw [hz] at e0 e1 e2
  have hm:(k*3+j)%3=j:=by omega
  have hL:(madeCells #[Value.int .i64 0,.int .i64 0,.int .i64 0] (n*3)).toList[k*3+j]? = some (.int .i64 0):=by
   simp [madeCells,hi,hm]
   match j,hj with
   |0,_=>rfl
   |1,_=>rfl
   |2,_=>rfl
  rw [hL]
  match j,hj with
  |0,_=>exact e0.symm
  |1,_=>exact e1.symm
  |2,_=>exact e2.symm
 ·rw [List.getElem?_eq_none (by simp [madeCells];omega),List.getElem?_eq_none (by rw [srcells_length];simp;omega)]
theorem srTakeSet (l:List Sr) (n k:Nat) (hn:l.length=n) (hk:k<n):(l.take k++List.replicate (n-k) (⟨0,0,0⟩:Sr)).set k (srAt l k)=l.take (k+1)++List.replicate (n-(k+1)) ⟨0,0,0⟩:=by
 subst hn
 rw [List.set_append_right _ _ (by simp;omega),List.take_succ_eq_append_getElem hk,srAt_lt hk]
 simp only [List.length_take,Nat.min_eq_left (Nat.le_of_lt hk),Nat.sub_self]
 obtain ⟨m,hm⟩:∃ m,l.length-k=m+1:=⟨l.length-k-1,by omega⟩
 rw [hm,show l.length-(k+1)=m by omega,List.replicate_succ,List.set_cons_zero]
 simp only [List.append_assoc,List.cons_append,List.nil_append]
def SrIn (b t:Nat) (w:World) (v:Value) (l:List Sr):Prop:=SlIn b t w v l.length (srcells l)
theorem srcells_ne {l:List Sr} (h:0<l.length):srcells l≠[]:=by
 intro e
 have:=srcells_length l
 rw [e] at this
 simp at this
 omega
theorem SrsAt.of_in {b t:Nat} {w:World} {a:Option Addr} {cap:Nat} {l:List Sr} (h:SrIn b t w (.slice a l.length cap) l):SrsAt w a l:=by
 intro k hk
 obtain ⟨g,off,rfl,h1,h2,h3⟩:=SlIn.some h (srcells_ne (by omega))
 have hl:=srcells_length l
 obtain ⟨e0,e1,e2⟩:=srcells_get l k hk
 refine ⟨g,off,rfl,by omega,?_,?_,?_⟩
 ·have:=(SlIn.cells h (k*3) (by omega)).1
  rw [e0] at this
  exact this
 ·have:=(SlIn.cells h (k*3+1) (by omega)).1
  rw [e1] at this
  exact this
 ·have:=(SlIn.cells h (k*3+2) (by omega)).1
  rw [e2] at this
  exact this
theorem SrIn.of_row {b t:Nat} {w:World} {v:Value} {l:List Sr} (h:SrRow b w v l) (ht:∀ k,v.ownBlock=some k→k<t) (hs:t≤w.heap.size):SrIn b t w v l:=SlIn.of_row h ht hs
def SrsV (w:World) (v:Value) (l:List Sr):Prop:=∃ a c,v = .slice a l.length c∧SrsAt w a l∧l.length≤c∧(a=none→c=0)
def SrsW (b t:Nat) (w:World) (v:Value) (l:List Sr):Prop:=SrIn b t w v l∧∃ a c,v = .slice a l.length c∧l.length≤c∧(a=none→c=0)
section
variable {b t:Nat} {w w':World} {v:Value} {l:List Sr}
theorem SrsW.at (h:SrsW b t w v l):SrsV w v l:=by
 obtain ⟨h1,a,c,rfl,h2⟩:=h
 exact ⟨a,c,rfl,SrsAt.of_in h1,h2⟩
theorem SrsV.below (h:SrsV w v l) (g:Bel w w'):SrsV w' v l:=by
 obtain ⟨a,c,e,h1,h2⟩:=h
 exact ⟨a,c,e,h1.below g,h2⟩
theorem SrsW.keep (h:SrsW b t w v l) (hs:w.heap.size≤w'.heap.size) (hk:∀ k,b≤k→k<t→w'.heap[k]? = w.heap[k]?):SrsW b t w' v l:=⟨SlIn.keep h.1 hs hk,h.2⟩
theorem SrsW.below (h:SrsW b t w v l) (g:Bel w w'):SrsW b t w' v l:=⟨SlIn.below h.1 g,h.2⟩
theorem SrsW.cells (h:SrsW b t w v l):∃ p q,v = .slice p l.length q:=by
 obtain ⟨_,a,c,e,_⟩:=h
 exact ⟨a,c,e⟩
theorem SrsW.of_row (h:SrRow b w v l):SrsW b w.heap.size w v l:=by
 refine ⟨SrIn.of_row h (fun k hk=>(h.lt k hk).2) nlr,?_⟩
 obtain ⟨a,c,e⟩:=h.shape
 subst e
 exact ⟨a,c,rfl,h.cap,h.nilCap⟩
end
structure Fw where
 weight:Int
 finish:Int
 sizes:List Int
def Fw.val (r:Fw) (a:Option Addr) (c:Nat):Value:=.agg #[.int .i64 r.weight,.int .i64 r.finish,.slice a r.sizes.length c]
def fwAt (l:List Fw) (i:Nat):Fw:=l[i]?.getD ⟨0,0,[]⟩
theorem fwAt_lt {l:List Fw} {i:Nat} (h:i<l.length):fwAt l i=l[i]:=by simp [fwAt,List.getElem?_eq_getElem h]
theorem fwAt_set {l:List Fw} {r:Fw} {j:Nat} (h:j<l.length):fwAt (l.set j r) j=r:=by simp [fwAt,h]
theorem fwAt_other {l:List Fw} {r:Fw} {i j:Nat} (h:i≠j):fwAt (l.set j r) i=fwAt l i:=by unfold fwAt;rw [List.getElem?_set_ne (fun e=>h e.symm)]
theorem fwAt_old {l:List Fw} {r:Fw} {i:Nat} (h:i<l.length):fwAt (l++[r]) i=fwAt l i:=by unfold fwAt;rw [List.getElem?_append_left h]
theorem fwAt_new {l:List Fw} {r:Fw}:fwAt (l++[r]) l.length=r:=by simp [fwAt]
structure Fwr where
 weight:Int
 finish:Int
 hd:Value
def Fwr.cells (r:Fwr):List Value:=[.int .i64 r.weight,.int .i64 r.finish,r.hd]
def fwrAt (l:List Fwr) (i:Nat):Fwr:=l[i]?.getD ⟨0,0,.slice none 0 0⟩
theorem fwrAt_lt {l:List Fwr} {i:Nat} (h:i<l.length):fwrAt l i=l[i]:=by simp [fwrAt,List.getElem?_eq_getElem h]
theorem fwrAt_set {l:List Fwr} {r:Fwr} {j:Nat} (h:j<l.length):fwrAt (l.set j r) j=r:=by simp [fwrAt,h]
theorem fwrAt_other {l:List Fwr} {r:Fwr} {i j:Nat} (h:i≠j):fwrAt (l.set j r) i=fwrAt l i:=by unfold fwrAt;rw [List.getElem?_set_ne (fun e=>h e.symm)]
theorem fwrAt_old {l:List Fwr} {r:Fwr} {i:Nat} (h:i<l.length):fwrAt (l++[r]) i=fwrAt l i:=by unfold fwrAt;rw [List.getElem?_append_left h]
theorem fwrAt_new {l:List Fwr} {r:Fwr}:fwrAt (l++[r]) l.length=r:=by simp [fwrAt]
def fwcells (l:List Fwr):List Value:=l.flatMap Fwr.cells
theorem fwcells_cons (r:Fwr) (l:List Fwr):fwcells (r :: l) = .int .i64 r.weight :: .int .i64 r.finish :: r.hd :: fwcells l:=rfl
theorem fwcells_append (a b:List Fwr):fwcells (a++b)=fwcells a++fwcells b:=by simp [fwcells]
theorem fwcells_length (l:List Fwr):(fwcells l).length=l.length*3:=by
 induction l with
 |nil=>rfl
 |cons r l ih=>rw [fwcells_cons];simp [ih];omega
theorem fwcells_get (l:List Fwr) (k:Nat) (hk:k<l.length):(fwcells l)[k*3]? = some (.int .i64 (fwrAt l k).weight)∧(fwcells l)[k*3+1]? = some (.int .i64 (fwrAt l k).finish)∧(fwcells l)[k*3+2]? = some (fwrAt l k).hd:=by
 induction l generalizing k with
 |nil=>simp at hk
 |cons r l ih =>
  cases k with
  |zero=>simp [fwcells_cons,fwrAt]
  |succ k =>
   have:=ih k (by simpa using hk)
   rw [show (k+1)*3=k*3+3 by omega]
   simpa [fwcells_cons,fwrAt] using this
theorem fwcells_set (l:List Fwr) (k:Nat) (r:Fwr):((((fwcells l).set (k*3) (.int .i64 r.weight)).set (k*3+1) (.int .i64 r.finish)).set (k*3+2) r.hd)=fwcells (l.set k r):=by
 induction l generalizing k with
 |nil=>simp [fwcells]
 |cons x l ih =>
  cases k with
  |zero=>simp [fwcells_cons]
  |succ k =>
   rw [show (k+1)*3=k*3+3 by omega]
   simp only [fwcells_cons,List.set_cons_succ,← ih k]
theorem fwInfo:(Tryz.prog.info? 116).map (fun i=>(i.zero,i.size,i.bytes))=some (some (.agg #[.int .i64 0,.int .i64 0,.slice none 0 0]),3,40):=by kernel_rfl
def FwsAt (w:World) (a:Option Addr) (l:List Fw):Prop :=
 ∀ k,k<l.length→∃ b off ak ck,a=some ⟨b,off,none⟩∧b<w.heap.size∧(w.cell? ⟨b,off+k*3,none⟩=some (.int .i64 (fwAt l k).weight)∧w.cell? ⟨b,off+k*3+1,none⟩=some (.int .i64 (fwAt l k).finish)∧w.cell? ⟨b,off+k*3+2,none⟩=some (.slice ak (fwAt l k).sizes.length ck))∧IntsAt w ak (fwAt l k).sizes∧(fwAt l k).sizes.length≤ck∧(ak=none→ck=0)
theorem FwsAt.below {w w':World} {a:Option Addr} {l:List Fw} (h:FwsAt w a l) (gr:Bel w w'):FwsAt w' a l:=by
 intro k hk
 obtain ⟨b,off,ak,ck,e,hb,⟨c0,c1,c2⟩,hr,hl⟩:=h k hk
 exact ⟨b,off,ak,ck,e,Nat.lt_of_lt_of_le hb gr.size,⟨by rw [gr.cell (p:=⟨b,off+k*3,none⟩) hb];exact c0,by rw [gr.cell (p:=⟨b,off+k*3+1,none⟩) hb];exact c1,by rw [gr.cell (p:=⟨b,off+k*3+2,none⟩) hb];exact c2⟩,hr.below gr,hl⟩
theorem FwsAt.alloc {w:World} {a:Option Addr} {l:List Fw} (h:FwsAt w a l) (o:Obj):FwsAt (w.alloc o) a l:=h.below ((Below.refl _ _).alloc nlr _)
theorem FwsAt.nil (w:World) (a:Option Addr):FwsAt w a []:=by intro k hk;simp at hk
structure FwV (b t:Nat) (w:World) (v:Value) (rs:List Fwr) (l:List Fw):Prop where
 outer:SlIn b t w v l.length (fwcells rs)
 len:rs.length=l.length
 num:∀ i,i<l.length→(fwrAt rs i).weight=(fwAt l i).weight∧(fwrAt rs i).finish=(fwAt l i).finish
 row:∀ i,i<l.length→IntIn b t w (fwrAt rs i).hd (fwAt l i).sizes
 cap:∀ i,i<l.length→∃ a c,(fwrAt rs i).hd = .slice a (fwAt l i).sizes.length c∧(fwAt l i).sizes.length≤c∧(a=none→c=0)
 apart:∀ i j k o,i<l.length→j<l.length→i≠j→Hits (fwrAt rs i).hd (fwAt l i).sizes.length k o→¬ Hits (fwrAt rs j).hd (fwAt l j).sizes.length k o
 free:∀ i k o,i<l.length→Hits (fwrAt rs i).hd (fwAt l i).sizes.length k o→¬ Hits v (l.length*3) k o
def FwsIn (b t:Nat) (w:World) (v:Value) (l:List Fw):Prop:=∃ rs,FwV b t w v rs l
section
variable {b t:Nat} {w w':World} {v:Value} {rs:List Fwr} {l:List Fw}
theorem FwV.keep (h:FwV b t w v rs l) (hs:w.heap.size≤w'.heap.size) (hk:∀ k,b≤k→k<t→w'.heap[k]? = w.heap[k]?):FwV b t w' v rs l :=
 ⟨h.outer.keep hs hk,h.len,h.num,fun i hi=>SlIn.keep (h.row i hi) hs hk,h.cap,h.apart,h.free⟩
theorem FwV.below (h:FwV b t w v rs l) (gr:Bel w w'):FwV b t w' v rs l :=
 ⟨h.outer.below gr,h.len,h.num,fun i hi=>SlIn.below (h.row i hi) gr,h.cap,h.apart,h.free⟩
theorem FwV.wide {b' t':Nat} (h:FwV b t w v rs l) (hb:b'≤b) (ht:t≤t') (hs:t'≤w.heap.size):FwV b' t' w v rs l :=
 ⟨h.outer.wide hb ht hs,h.len,h.num,fun i hi=>SlIn.wide (h.row i hi) hb ht hs,h.cap,h.apart,h.free⟩
theorem FwsIn.keep (h:FwsIn b t w v l) (hs:w.heap.size≤w'.heap.size) (hk:∀ k,b≤k→k<t→w'.heap[k]? = w.heap[k]?):FwsIn b t w' v l:=by
 obtain ⟨rs,h⟩:=h
 exact ⟨rs,h.keep hs hk⟩
theorem FwsIn.below (h:FwsIn b t w v l) (gr:Bel w w'):FwsIn b t w' v l:=by
 obtain ⟨rs,h⟩:=h
 exact ⟨rs,h.below gr⟩
theorem FwsIn.wide {b' t':Nat} (h:FwsIn b t w v l) (hb:b'≤b) (ht:t≤t') (hs:t'≤w.heap.size):FwsIn b' t' w v l:=by
 obtain ⟨rs,h⟩:=h
 exact ⟨rs,h.wide hb ht hs⟩
theorem FwV.at {a:Option Addr} {c:Nat} (h:FwV b t w (.slice a l.length c) rs l):FwsAt w a l:=by
 intro k hk
 have hl:=h.len
 have hcl:=fwcells_length rs
 obtain ⟨g0,off,rfl,h1,h2,h3⟩:=h.outer.some (by intro e;rw [e] at hcl;simp at hcl;omega)
 obtain ⟨ak,ck,e,hc⟩:=h.cap k hk
 obtain ⟨e0,e1,e2⟩:=fwcells_get rs k (by omega)
 obtain ⟨n0,n1⟩:=h.num k hk
 refine ⟨g0,off,ak,ck,rfl,by omega,⟨?_,?_,?_⟩,?_,hc⟩
 ·have:=(h.outer.cells (k*3) (by omega)).1
  rw [e0,Option.getD_some,n0] at this
  exact this
 ·have:=(h.outer.cells (k*3+1) (by omega)).1
  rw [e1,Option.getD_some,n1] at this
  exact this
 ·have:=(h.outer.cells (k*3+2) (by omega)).1
  rw [e2,Option.getD_some,e] at this
  exact this
 ·have hr:=h.row k hk
  rw [e] at hr
  exact IntsAt.of_in hr
theorem FwsIn.at {a:Option Addr} {c:Nat} (h:FwsIn b t w (.slice a l.length c) l):FwsAt w a l:=by
 obtain ⟨rs,h⟩:=h
 exact h.at
theorem FwV.nums (h:FwV b t w v rs l) {j:Nat} (hj:j<l.length) {r':Fw} (hg:r'.sizes=(fwAt l j).sizes) (ho:SlIn b t w' v l.length (fwcells (rs.set j ⟨r'.weight,r'.finish,(fwrAt rs j).hd⟩))) (ht:Turn (Hits v (l.length*3)) w w') :
 FwV b t w' v (rs.set j ⟨r'.weight,r'.finish,(fwrAt rs j).hd⟩) (l.set j r'):=by
 have hl:=h.len
 have e1:∀ i,(fwrAt (rs.set j ⟨r'.weight,r'.finish,(fwrAt rs j).hd⟩) i).hd=(fwrAt rs i).hd:=fun i=>by
  by_cases hij:i=j
  ·subst hij;rw [fwrAt_set (by omega)]
  ·rw [fwrAt_other hij]
 have e2:∀ i,(fwAt (l.set j r') i).sizes=(fwAt l i).sizes:=fun i=>by
  by_cases hij:i=j
  ·subst hij;rw [fwAt_set hj,hg]
  ·rw [fwAt_other hij]
 refine ⟨by rw [List.length_set];exact ho,by rw [List.length_set,List.length_set,hl],fun i hi=>?_,fun i hi=>?_,fun i hi=>?_,fun i k x o hi hk hne=>?_,fun i x o hi=>?_⟩
 ·rw [List.length_set] at hi
  by_cases hij:i=j
  ·subst hij;rw [fwrAt_set (by omega),fwAt_set hj];exact ⟨rfl,rfl⟩
  ·rw [fwrAt_other hij,fwAt_other hij];exact h.num i hi
 ·rw [List.length_set] at hi
  rw [e1,e2]
  exact SlIn.turn (h.row i hi) ht fun k o hh hx=>h.free i k o hi (by simpa using hh) hx
 ·rw [List.length_set] at hi
  rw [e1,e2]
  exact h.cap i hi
 ·rw [List.length_set] at hi hk
  rw [e1,e1,e2,e2]
  exact h.apart i k x o hi hk hne
 ·rw [List.length_set] at hi ⊢
  rw [e1,e2]
  exact h.free i x o hi
theorem FwV.list (h:FwV b t w v rs l) {j:Nat} (hj:j<l.length) {r':Fw} (hweight:r'.weight=(fwAt l j).weight) ( hfinish:r'.finish=(fwAt l j).finish) (hg:r'.sizes.length=(fwAt l j).sizes.length) (hr:IntIn b t w' (fwrAt rs j).hd r'.sizes) (ht:Turn (Hits (fwrAt rs j).hd (fwAt l j).sizes.length) w w') :
 FwV b t w' v rs (l.set j r'):=by
 have hl:=h.len
 have e2:∀ i,(fwAt (l.set j r') i).sizes.length=(fwAt l i).sizes.length:=fun i=>by
  by_cases hij:i=j
  ·subst hij;rw [fwAt_set hj,hg]
  ·rw [fwAt_other hij]
 refine ⟨?_,by rw [List.length_set,hl],fun i hi=>?_,fun i hi=>?_,fun i hi=>?_,fun i k x o hi hk hne=>?_,fun i x o hi=>?_⟩
 ·rw [List.length_set]
  refine h.outer.turn ht fun k o hh hx=>h.free j k o hj hx ?_
  rw [fwcells_length,hl] at hh
  exact hh
 ·rw [List.length_set] at hi
  by_cases hij:i=j
  ·subst hij;rw [fwAt_set hj,hweight,hfinish];exact h.num i hi
  ·rw [fwAt_other hij];exact h.num i hi
 ·rw [List.length_set] at hi
  by_cases hij:i=j
  ·subst hij;rw [fwAt_set hj];exact hr
  ·rw [fwAt_other hij]
   exact SlIn.turn (h.row i hi) ht fun k o hh hx=>h.apart i j k o hi hj hij (by simpa using hh) hx
 ·rw [List.length_set] at hi
  rw [e2]
  exact h.cap i hi
 ·rw [List.length_set] at hi hk
  rw [e2,e2]
  exact h.apart i k x o hi hk hne
 ·rw [List.length_set] at hi ⊢
  rw [e2]
  exact h.free i x o hi
end
def fwSum (l:List Fw) (i:Nat):Nat:=((l.take i).map fun r=>r.sizes.length).sum
theorem fwSum_zero (l:List Fw):fwSum l 0=0:=by simp [fwSum]
theorem fwSum_succ {l:List Fw} {i:Nat} (h:i<l.length):fwSum l (i+1)=fwSum l i+(fwAt l i).sizes.length:=by
 unfold fwSum
 rw [List.take_succ_eq_append_getElem h,List.map_append,List.sum_append,fwAt_lt h]
 simp
theorem fwSum_mono {l:List Fw} {i:Nat}:∀ {j:Nat},i≤j→j≤l.length→fwSum l i≤fwSum l j:=by
 intro j
 induction j with
 |zero=>intro h _;rw [show i=0 by omega];exact Nat.le_refl _
 |succ j ih =>
  intro h hj
  by_cases e:i=j+1
  ·subst e;exact Nat.le_refl _
  ·rw [fwSum_succ (by omega)]
   have:=ih (by omega) (by omega)
   omega
theorem fwSum_one {l:List Fw} {i:Nat} (h:i<l.length):(fwAt l i).sizes.length≤fwSum l l.length:=by
 have h1:=fwSum_succ h
 have h2:=fwSum_mono (l:=l) (show i+1≤l.length by omega) nlr
 omega
theorem fwOwn {v:Value} {n k o:Nat} (h:Hits v n k o):v.ownBlock=some k:=by
 obtain ⟨off,n,cap,rfl,_⟩:=h
 rfl
structure Fs where
 now:Int
 flows:List Fw
def Fs.val (r:Fs) (a:Option Addr) (c:Nat):Value:=.agg #[.int .i64 r.now,.slice a r.flows.length c]
def FsAt (w:World) (v:Value) (r:Fs):Prop:=∃ a c,v=r.val a c∧FwsAt w a r.flows
def FsIn (b t:Nat) (w:World) (v:Value) (r:Fs):Prop:=∃ a c,v=r.val a c∧FwsIn b t w (.slice a r.flows.length c) r.flows
def Fs.big (r:Fs):Nat:=r.flows.length+fwSum r.flows r.flows.length
section
variable {b t:Nat} {w w':World} {v:Value} {r:Fs}
theorem FsIn.at (h:FsIn b t w v r):FsAt w v r:=by
 obtain ⟨a,c,e,h⟩:=h
 exact ⟨a,c,e,h.at⟩
theorem FsAt.below (h:FsAt w v r) (g:Bel w w'):FsAt w' v r:=by
 obtain ⟨a,c,e,h⟩:=h
 exact ⟨a,c,e,h.below g⟩
theorem FsIn.below (h:FsIn b t w v r) (g:Bel w w'):FsIn b t w' v r:=by
 obtain ⟨a,c,e,h⟩:=h
 exact ⟨a,c,e,h.below g⟩
theorem FsIn.keep (h:FsIn b t w v r) (hs:w.heap.size≤w'.heap.size) (hk:∀ k,b≤k→k<t→w'.heap[k]? = w.heap[k]?):FsIn b t w' v r:=by
 obtain ⟨a,c,e,h⟩:=h
 exact ⟨a,c,e,h.keep hs hk⟩
end
theorem Fs.small {r:Fs} (h:r.big≤1048576):r.flows.length≤1048576∧fwSum r.flows r.flows.length≤1048576∧∀ k,k<r.flows.length→(fwAt r.flows k).sizes.length≤1048576:=by
 unfold Fs.big at h
 refine ⟨by omega,by omega,fun k hk=>?_⟩
 have:=fwSum_one hk
 omega
structure Ln where
 kind:Int
 extra:Int
 least:Int
def Ln.val (r:Ln):Value:=.agg #[.int .i64 r.kind,.int .i64 r.extra,.int .i64 r.least]
def Ln.cells (r:Ln):List Value:=[.int .i64 r.kind,.int .i64 r.extra,.int .i64 r.least]
def Ln.ok (l:Ln):Bool:=inB 1 3 l.kind&&(inB 0 100 l.extra&&inB 0 2000 l.least)
theorem Ln.ok_iff {l:Ln}:l.ok=true↔(1≤l.kind∧l.kind≤3)∧(0≤l.extra∧l.extra≤100)∧(0≤l.least∧l.least≤2000):=by
 simp [Ln.ok,inB]
def Ln.carry (l:Ln) (n:Int):Int:=if n+l.extra<l.least then l.least else n+l.extra
def takeK (k c:Int):Int:=if k=2 then (c+47)/48*53 else if k=3 then c+(c+63)/64 else c
def Ln.takes (l:Ln) (n:Int):Int:=takeK l.kind (l.carry n)
theorem carry_le {l:Ln} (h:l.ok=true) (n:Int):0≤l.carry n∧n≤l.carry n:=by
 have:=Ln.ok_iff.1 h
 unfold Ln.carry;split<;>omega
theorem carry_most {l:Ln} (h:l.ok=true) {n:Int} (n1:n≤100000):l.carry n≤100100:=by
 have:=Ln.ok_iff.1 h
 unfold Ln.carry;split<;>omega
def Ln.on (l:Ln) (n:Int):Int:=if (l.ok&&inB 0 100000 n)=true then l.takes n else -1
theorem on_ok {l:Ln} {n:Int} (h:l.ok=true) (g:inB 0 100000 n=true):l.on n=l.takes n:=by simp [Ln.on,h,g]
structure Gt where
 ln:Ln
 routes:List Rt
 rules:List Ru
 tree:List Nd
 leaves:List Int
 rows:Rw
 steers:List Sr
 fair:Fs
 next:Int
 draw:Int
structure Ga where
 a1:Option Addr
 c1:Nat
 a2:Option Addr
 c2:Nat
 a3:Option Addr
 c3:Nat
 a4:Option Addr
 c4:Nat
 a5:Option Addr
 c5:Nat
 a6:Option Addr
 c6:Nat
 a7:Option Addr
 c7:Nat
structure Gf where
 b1:Nat
 t1:Nat
 b2:Nat
 t2:Nat
 b3:Nat
 t3:Nat
 b4:Nat
 t4:Nat
 b5:Nat
 t5:Nat
 b6:Nat
 t6:Nat
 b7:Nat
 t7:Nat
def Gt.cells (g:Gt) (x:Ga):Array Value:=#[.int .i64 g.ln.kind,.int .i64 g.ln.extra,.int .i64 g.ln.least,.slice x.a1 g.routes.length x.c1,.slice x.a2 g.rules.length x.c2,.slice x.a3 g.tree.length x.c3,.slice x.a4 g.leaves.length x.c4,.int .i64 g.rows.most,.slice x.a5 g.rows.lists.length x.c5,.slice x.a6 g.steers.length x.c6,.int .i64 g.fair.now,.slice x.a7 g.fair.flows.length x.c7,.int .i64 g.next,.int .i64 g.draw]
def Gt.val (g:Gt) (x:Ga):Value:=.agg (g.cells x)
def Gt.big (g:Gt):Nat:=g.routes.length+g.rules.length+g.tree.length+g.leaves.length+g.rows.big+g.steers.length+g.fair.big
structure GtV (w:World) (x:Ga) (g:Gt):Prop where
 routes:RtsV w (.slice x.a1 g.routes.length x.c1) g.routes
 rules:RusV w (.slice x.a2 g.rules.length x.c2) g.rules
 tree:NdsV w (.slice x.a3 g.tree.length x.c3) g.tree
 leaves:IntsV w (.slice x.a4 g.leaves.length x.c4) g.leaves
 rows:RwAt w (g.rows.val x.a5 x.c5) g.rows
 steers:SrsV w (.slice x.a6 g.steers.length x.c6) g.steers
 fair:FsAt w (g.fair.val x.a7 x.c7) g.fair
def GtAt (w:World) (v:Value) (g:Gt):Prop:=∃ x,v=g.val x∧GtV w x g
structure GtW (w:World) (x:Ga) (f:Gf) (g:Gt):Prop where
 routes:RtsW f.b1 f.t1 w (.slice x.a1 g.routes.length x.c1) g.routes
 rules:RusW f.b2 f.t2 w (.slice x.a2 g.rules.length x.c2) g.rules
 tree:NdsW f.b3 f.t3 w (.slice x.a3 g.tree.length x.c3) g.tree
 leaves:IntsW f.b4 f.t4 w (.slice x.a4 g.leaves.length x.c4) g.leaves
 rows:RwIn f.b5 f.t5 w (g.rows.val x.a5 x.c5) g.rows
 steers:SrsW f.b6 f.t6 w (.slice x.a6 g.steers.length x.c6) g.steers
 fair:FsIn f.b7 f.t7 w (g.fair.val x.a7 x.c7) g.fair
structure Gf.In (f:Gf) (b t:Nat):Prop where
 l1:b≤f.b1
 h1:f.t1≤t
 l2:b≤f.b2
 h2:f.t2≤t
 l3:b≤f.b3
 h3:f.t3≤t
 l4:b≤f.b4
 h4:f.t4≤t
 l5:b≤f.b5
 h5:f.t5≤t
 l6:b≤f.b6
 h6:f.t6≤t
 l7:b≤f.b7
 h7:f.t7≤t
structure Gf.Apart (f:Gf):Prop where
 p12:f.t1≤f.b2∨f.t2≤f.b1
 p13:f.t1≤f.b3∨f.t3≤f.b1
 p14:f.t1≤f.b4∨f.t4≤f.b1
 p15:f.t1≤f.b5∨f.t5≤f.b1
 p16:f.t1≤f.b6∨f.t6≤f.b1
 p17:f.t1≤f.b7∨f.t7≤f.b1
 p23:f.t2≤f.b3∨f.t3≤f.b2
 p24:f.t2≤f.b4∨f.t4≤f.b2
 p25:f.t2≤f.b5∨f.t5≤f.b2
 p26:f.t2≤f.b6∨f.t6≤f.b2
 p27:f.t2≤f.b7∨f.t7≤f.b2
 p34:f.t3≤f.b4∨f.t4≤f.b3
 p35:f.t3≤f.b5∨f.t5≤f.b3
 p36:f.t3≤f.b6∨f.t6≤f.b3
 p37:f.t3≤f.b7∨f.t7≤f.b3
 p45:f.t4≤f.b5∨f.t5≤f.b4
 p46:f.t4≤f.b6∨f.t6≤f.b4
 p47:f.t4≤f.b7∨f.t7≤f.b4
 p56:f.t5≤f.b6∨f.t6≤f.b5
 p57:f.t5≤f.b7∨f.t7≤f.b5
 p67:f.t6≤f.b7∨f.t7≤f.b6
def GtIn (b t:Nat) (w:World) (v:Value) (g:Gt):Prop:=∃ x f,v=g.val x∧GtW w x f g∧f.In b t∧f.Apart∧t≤w.heap.size
section
variable {b t:Nat} {w w':World} {v:Value} {x:Ga} {f:Gf} {g:Gt}
theorem GtV.below (h:GtV w x g) (q:Bel w w'):GtV w' x g:=⟨h.routes.below q,h.rules.below q,h.tree.below q,h.leaves.below q,h.rows.below q,h.steers.below q,h.fair.below q⟩
theorem GtW.at (h:GtW w x f g):GtV w x g:=⟨h.routes.at,h.rules.at,h.tree.at,h.leaves.at,h.rows.at,h.steers.at,h.fair.at⟩
theorem GtW.below (h:GtW w x f g) (q:Bel w w'):GtW w' x f g:=⟨h.routes.below q,h.rules.below q,h.tree.below q,h.leaves.below q,h.rows.below q,h.steers.below q,h.fair.below q⟩
theorem GtW.keep (h:GtW w x f g) (i:f.In b t) (hs:w.heap.size≤w'.heap.size) (hk:∀ k,b≤k→k<t→w'.heap[k]? = w.heap[k]?):GtW w' x f g :=
 ⟨h.routes.keep hs (fun k k1 k2=>hk k (Nat.le_trans i.l1 k1) (Nat.lt_of_lt_of_le k2 i.h1)),h.rules.keep hs (fun k k1 k2=>hk k (Nat.le_trans i.l2 k1) (Nat.lt_of_lt_of_le k2 i.h2)),h.tree.keep hs (fun k k1 k2=>hk k (Nat.le_trans i.l3 k1) (Nat.lt_of_lt_of_le k2 i.h3)),h.leaves.keep hs (fun k k1 k2=>hk k (Nat.le_trans i.l4 k1) (Nat.lt_of_lt_of_le k2 i.h4)),h.rows.keep hs (fun k k1 k2=>hk k (Nat.le_trans i.l5 k1) (Nat.lt_of_lt_of_le k2 i.h5)),h.steers.keep hs (fun k k1 k2=>hk k (Nat.le_trans i.l6 k1) (Nat.lt_of_lt_of_le k2 i.h6)),h.fair.keep hs (fun k k1 k2=>hk k (Nat.le_trans i.l7 k1) (Nat.lt_of_lt_of_le k2 i.h7))⟩
theorem Gf.In.wide {b' t':Nat} (i:f.In b t) (hb:b'≤b) (ht:t≤t'):f.In b' t':=⟨Nat.le_trans hb i.l1,Nat.le_trans i.h1 ht,Nat.le_trans hb i.l2,Nat.le_trans i.h2 ht,Nat.le_trans hb i.l3,Nat.le_trans i.h3 ht,Nat.le_trans hb i.l4,Nat.le_trans i.h4 ht,Nat.le_trans hb i.l5,Nat.le_trans i.h5 ht,Nat.le_trans hb i.l6,Nat.le_trans i.h6 ht,Nat.le_trans hb i.l7,Nat.le_trans i.h7 ht⟩
theorem GtIn.at (h:GtIn b t w v g):GtAt w v g:=by
 obtain ⟨x,f,e,h,_⟩:=h
 exact ⟨x,e,h.at⟩
theorem GtAt.below (h:GtAt w v g) (q:Bel w w'):GtAt w' v g:=by
 obtain ⟨x,e,h⟩:=h
 exact ⟨x,e,h.below q⟩
theorem GtIn.below (h:GtIn b t w v g) (q:Bel w w'):GtIn b t w' v g:=by
 obtain ⟨x,f,e,h,i,a,s⟩:=h
 exact ⟨x,f,e,h.below q,i,a,Nat.le_trans s q.size⟩
theorem GtIn.keep (h:GtIn b t w v g) (hs:w.heap.size≤w'.heap.size) (hk:∀ k,b≤k→k<t→w'.heap[k]? = w.heap[k]?):GtIn b t w' v g:=by
 obtain ⟨x,f,e,h,i,a,s⟩:=h
 exact ⟨x,f,e,h.keep i hs hk,i,a,Nat.le_trans s hs⟩
theorem GtIn.cells (h:GtIn b t w v g):∃ x,v=g.val x:=by
 obtain ⟨x,f,e,_⟩:=h
 exact ⟨x,e⟩
theorem GtW.turn1 (h:GtW w x f g) (i:f.In b t) (hw:t≤w.heap.size) (ap:f.Apart) (s:Span f.b1 f.t1 w w') {g':List Rt} (r:RtsW f.b1 f.t1 w' (.slice x.a1 g'.length x.c1) g'):GtW w' x f { g with routes:=g' } :=
 ⟨r,h.rules.keep s.size (fun k k1 k2=>s.block k (by have:=i.h2;omega) (by have:=ap.p12;omega)),h.tree.keep s.size (fun k k1 k2=>s.block k (by have:=i.h3;omega) (by have:=ap.p13;omega)),h.leaves.keep s.size (fun k k1 k2=>s.block k (by have:=i.h4;omega) (by have:=ap.p14;omega)),h.rows.keep s.size (fun k k1 k2=>s.block k (by have:=i.h5;omega) (by have:=ap.p15;omega)),h.steers.keep s.size (fun k k1 k2=>s.block k (by have:=i.h6;omega) (by have:=ap.p16;omega)),h.fair.keep s.size (fun k k1 k2=>s.block k (by have:=i.h7;omega) (by have:=ap.p17;omega))⟩
theorem GtW.turn2 (h:GtW w x f g) (i:f.In b t) (hw:t≤w.heap.size) (ap:f.Apart) (s:Span f.b2 f.t2 w w') {g':List Ru} (r:RusW f.b2 f.t2 w' (.slice x.a2 g'.length x.c2) g'):GtW w' x f { g with rules:=g' } :=
 ⟨h.routes.keep s.size (fun k k1 k2=>s.block k (by have:=i.h1;omega) (by have:=ap.p12;omega)),r,h.tree.keep s.size (fun k k1 k2=>s.block k (by have:=i.h3;omega) (by have:=ap.p23;omega)),h.leaves.keep s.size (fun k k1 k2=>s.block k (by have:=i.h4;omega) (by have:=ap.p24;omega)),h.rows.keep s.size (fun k k1 k2=>s.block k (by have:=i.h5;omega) (by have:=ap.p25;omega)),h.steers.keep s.size (fun k k1 k2=>s.block k (by have:=i.h6;omega) (by have:=ap.p26;omega)),h.fair.keep s.size (fun k k1 k2=>s.block k (by have:=i.h7;omega) (by have:=ap.p27;omega))⟩
theorem GtW.turn3 (h:GtW w x f g) (i:f.In b t) (hw:t≤w.heap.size) (ap:f.Apart) (s:Span f.b3 f.t3 w w') {g':List Nd} (r:NdsW f.b3 f.t3 w' (.slice x.a3 g'.length x.c3) g'):GtW w' x f { g with tree:=g' } :=
 ⟨h.routes.keep s.size (fun k k1 k2=>s.block k (by have:=i.h1;omega) (by have:=ap.p13;omega)),h.rules.keep s.size (fun k k1 k2=>s.block k (by have:=i.h2;omega) (by have:=ap.p23;omega)),r,h.leaves.keep s.size (fun k k1 k2=>s.block k (by have:=i.h4;omega) (by have:=ap.p34;omega)),h.rows.keep s.size (fun k k1 k2=>s.block k (by have:=i.h5;omega) (by have:=ap.p35;omega)),h.steers.keep s.size (fun k k1 k2=>s.block k (by have:=i.h6;omega) (by have:=ap.p36;omega)),h.fair.keep s.size (fun k k1 k2=>s.block k (by have:=i.h7;omega) (by have:=ap.p37;omega))⟩
theorem GtW.turn4 (h:GtW w x f g) (i:f.In b t) (hw:t≤w.heap.size) (ap:f.Apart) (s:Span f.b4 f.t4 w w') {g':List Int} (r:IntsW f.b4 f.t4 w' (.slice x.a4 g'.length x.c4) g'):GtW w' x f { g with leaves:=g' } :=
 ⟨h.routes.keep s.size (fun k k1 k2=>s.block k (by have:=i.h1;omega) (by have:=ap.p14;omega)),h.rules.keep s.size (fun k k1 k2=>s.block k (by have:=i.h2;omega) (by have:=ap.p24;omega)),h.tree.keep s.size (fun k k1 k2=>s.block k (by have:=i.h3;omega) (by have:=ap.p34;omega)),r,h.rows.keep s.size (fun k k1 k2=>s.block k (by have:=i.h5;omega) (by have:=ap.p45;omega)),h.steers.keep s.size (fun k k1 k2=>s.block k (by have:=i.h6;omega) (by have:=ap.p46;omega)),h.fair.keep s.size (fun k k1 k2=>s.block k (by have:=i.h7;omega) (by have:=ap.p47;omega))⟩
theorem GtW.turn5 (h:GtW w x f g) (i:f.In b t) (hw:t≤w.heap.size) (ap:f.Apart) (s:Span f.b5 f.t5 w w') {g':Rw} (r:RwIn f.b5 f.t5 w' (g'.val x.a5 x.c5) g'):GtW w' x f { g with rows:=g' } :=
 ⟨h.routes.keep s.size (fun k k1 k2=>s.block k (by have:=i.h1;omega) (by have:=ap.p15;omega)),h.rules.keep s.size (fun k k1 k2=>s.block k (by have:=i.h2;omega) (by have:=ap.p25;omega)),h.tree.keep s.size (fun k k1 k2=>s.block k (by have:=i.h3;omega) (by have:=ap.p35;omega)),h.leaves.keep s.size (fun k k1 k2=>s.block k (by have:=i.h4;omega) (by have:=ap.p45;omega)),r,h.steers.keep s.size (fun k k1 k2=>s.block k (by have:=i.h6;omega) (by have:=ap.p56;omega)),h.fair.keep s.size (fun k k1 k2=>s.block k (by have:=i.h7;omega) (by have:=ap.p57;omega))⟩
theorem GtW.turn6 (h:GtW w x f g) (i:f.In b t) (hw:t≤w.heap.size) (ap:f.Apart) (s:Span f.b6 f.t6 w w') {g':List Sr} (r:SrsW f.b6 f.t6 w' (.slice x.a6 g'.length x.c6) g'):GtW w' x f { g with steers:=g' } :=
 ⟨h.routes.keep s.size (fun k k1 k2=>s.block k (by have:=i.h1;omega) (by have:=ap.p16;omega)),h.rules.keep s.size (fun k k1 k2=>s.block k (by have:=i.h2;omega) (by have:=ap.p26;omega)),h.tree.keep s.size (fun k k1 k2=>s.block k (by have:=i.h3;omega) (by have:=ap.p36;omega)),h.leaves.keep s.size (fun k k1 k2=>s.block k (by have:=i.h4;omega) (by have:=ap.p46;omega)),h.rows.keep s.size (fun k k1 k2=>s.block k (by have:=i.h5;omega) (by have:=ap.p56;omega)),r,h.fair.keep s.size (fun k k1 k2=>s.block k (by have:=i.h7;omega) (by have:=ap.p67;omega))⟩
theorem GtW.turn7 (h:GtW w x f g) (i:f.In b t) (hw:t≤w.heap.size) (ap:f.Apart) (s:Span f.b7 f.t7 w w') {g':Fs} (r:FsIn f.b7 f.t7 w' (g'.val x.a7 x.c7) g'):GtW w' x f { g with fair:=g' } :=
 ⟨h.routes.keep s.size (fun k k1 k2=>s.block k (by have:=i.h1;omega) (by have:=ap.p17;omega)),h.rules.keep s.size (fun k k1 k2=>s.block k (by have:=i.h2;omega) (by have:=ap.p27;omega)),h.tree.keep s.size (fun k k1 k2=>s.block k (by have:=i.h3;omega) (by have:=ap.p37;omega)),h.leaves.keep s.size (fun k k1 k2=>s.block k (by have:=i.h4;omega) (by have:=ap.p47;omega)),h.rows.keep s.size (fun k k1 k2=>s.block k (by have:=i.h5;omega) (by have:=ap.p57;omega)),h.steers.keep s.size (fun k k1 k2=>s.block k (by have:=i.h6;omega) (by have:=ap.p67;omega)),r⟩
end
theorem RtsV.spot' {w:World} {a:Option Addr} {n c:Nat} {l:List Rt} (h:RtsV w (.slice a n c) l):RtsAt w a l:=by
 obtain ⟨a',c',e,h1,_⟩:=h
 cases e
 exact h1
theorem RusV.spot' {w:World} {a:Option Addr} {n c:Nat} {l:List Ru} (h:RusV w (.slice a n c) l):RusAt w a l:=by
 obtain ⟨a',c',e,h1,_⟩:=h
 cases e
 exact h1
theorem NdsV.spot' {w:World} {a:Option Addr} {n c:Nat} {l:List Nd} (h:NdsV w (.slice a n c) l):NdsAt w a l:=by
 obtain ⟨a',c',e,h1,_⟩:=h
 cases e
 exact h1
theorem IntsV.spot' {w:World} {a:Option Addr} {n c:Nat} {l:List Int} (h:IntsV w (.slice a n c) l):IntsAt w a l:=by
 obtain ⟨a',c',e,h1,_⟩:=h
 cases e
 exact h1
theorem SrsV.spot' {w:World} {a:Option Addr} {n c:Nat} {l:List Sr} (h:SrsV w (.slice a n c) l):SrsAt w a l:=by
 obtain ⟨a',c',e,h1,_⟩:=h
 cases e
 exact h1
theorem lies_cell {w:World} {ts:List Thing} {W:World} {g:Nat} {cs:Array Value} {T:TypeId} (h:Lies w (Thing.box g cs T :: ts) W) (j:Nat) (u:Value) {cs':Array Value} (hr:cs.setIfInBounds j u=cs') (off:OffT g (g+1) ts) (lo:w.heap.size≤g):Lies w (Thing.box g cs' T :: ts) (W.setCell ⟨g,j,none⟩ u):=by
 have sp:Span g (g+1) W (W.setCell ⟨g,j,none⟩ u):=⟨rfl,rfl,rfl,by simp [World.setCell],fun k _ hk=>Below.heap_setCell _ _ _ _ (by show k≠g;omega)⟩
 exact ⟨⟨by rw [← hr];exact (show Boxed W g cs T from h.1.1).put j u,h.1.2.span sp off⟩,h.2.setCell (p:=⟨g,j,none⟩) lo _⟩
theorem RwAt.spot {w:World} {r:Rw} {a:Option Addr} {c:Nat} (h:RwAt w (r.val a c) r):IzAt w a r.lists:=by
 obtain ⟨a',c',e,h⟩:=h
 unfold Rw.val at e
 injection e with e
 have:=congrArg (·[1]?) e
 simp at this
 rw [this.1]
 exact h
theorem FsAt.spot {w:World} {r:Fs} {a:Option Addr} {c:Nat} (h:FsAt w (r.val a c) r):FwsAt w a r.flows:=by
 obtain ⟨a',c',e,h⟩:=h
 unfold Fs.val at e
 injection e with e
 have:=congrArg (·[1]?) e
 simp at this
 rw [this.1]
 exact h
theorem Gt.small {g:Gt} (h:g.big≤1048576):g.routes.length≤1048576∧g.rules.length≤1048576∧g.tree.length≤1048576∧g.leaves.length≤1048576∧g.rows.big≤1048576∧g.steers.length≤1048576∧g.fair.big≤1048576:=by
 unfold Gt.big at h
 omega
end Go.Proofs.YtgebghkcikmfaaaGreatDoor
