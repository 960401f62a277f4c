import Derived.Test.YtmfabeghfdoibaaGreatQT0FrPlain
import Derived.Laws.MakeOwn
import Derived.Test.YtmfabeghfdoibaaGreatRows
import Derived.Test.YtmfabeghfdoibaaGreatQT2Boxed
namespace Go.Proofs.YtmfabeghfdoibaaGreat
open Go.RowKit
structure It where
 id:Int
 size:Int
 tm:Int
def It.val (r:It):Value:=.agg #[.int .i64 r.id,.int .i64 r.size,.int .i64 r.tm]
def It.cells (r:It):List Value:=[.int .i64 r.id,.int .i64 r.size,.int .i64 r.tm]
def itAt (l:List It) (k:Nat):It:=l[k]?.getD ⟨0,0,0⟩
theorem itAt_lt {l:List It} {k:Nat} (h:k<l.length):itAt l k=l[k]:=by simp [itAt,List.getElem?_eq_getElem h]
def ItsAt (w:World) (a:Option Addr) (l:List It):Prop :=
 ∀ k,k<l.length→∃ b off,a=some ⟨b,off,none⟩∧b<w.heap.size∧w.cell? ⟨b,off+k*3,none⟩=some (.int .i64 (itAt l k).id)∧w.cell? ⟨b,off+k*3+1,none⟩=some (.int .i64 (itAt l k).size)∧w.cell? ⟨b,off+k*3+2,none⟩=some (.int .i64 (itAt l k).tm)
theorem ItsAt.below {w w':World} {a:Option Addr} {l:List It} (h:ItsAt w a l) (g:Bel w w'):ItsAt w' a l:=by
 intro k hk
 obtain ⟨b,off,e,hb,c0,c1,c2⟩:=h k hk
 exact ⟨b,off,e,Nat.lt_of_lt_of_le hb g.size,by rw [g.cell (p:=⟨b,off+k*3,none⟩) hb];exact c0,by rw [g.cell (p:=⟨b,off+k*3+1,none⟩) hb];exact c1,by rw [g.cell (p:=⟨b,off+k*3+2,none⟩) hb];exact c2⟩
theorem ItsAt.alloc {w:World} {a:Option Addr} {l:List It} (h:ItsAt w a l) (o:Obj):ItsAt (w.alloc o) a l :=
 h.below ((Below.refl _ _).alloc nlr _)
theorem ItsAt.nil (w:World) (a:Option Addr):ItsAt w a []:=by intro k hk;simp at hk
theorem ItsAt.empty {w:World} {l:List It} (h:ItsAt w none l):l=[]:=by
 cases l with
 |nil=>rfl
 |cons z zs=>obtain ⟨b,off,e,_⟩:=h 0 (by simp);cases e
theorem ItsAt.cells {w:World} {b off k:Nat} {l:List It} (h:ItsAt w (some ⟨b,off,none⟩) l) (hk:k<l.length):w.cell? ⟨b,off+k*3,none⟩=some (.int .i64 (itAt l k).id)∧w.cell? ⟨b,off+k*3+1,none⟩=some (.int .i64 (itAt l k).size)∧w.cell? ⟨b,off+k*3+2,none⟩=some (.int .i64 (itAt l k).tm):=by
 obtain ⟨b',off',e,_,c⟩:=h k hk
 cases e
 exact c
def itcells (l:List It):List Value:=l.flatMap It.cells
theorem itcells_cons (r:It) (l:List It):itcells (r :: l) = .int .i64 r.id :: .int .i64 r.size :: .int .i64 r.tm :: itcells l:=rfl
theorem itcells_append (a b:List It):itcells (a++b)=itcells a++itcells b:=by simp [itcells]
theorem itcells_length (l:List It):(itcells l).length=l.length*3:=by
 induction l with
 |nil=>rfl
 |cons r l ih=>rw [itcells_cons];simp [ih];omega
theorem itcells_get (l:List It) (k:Nat) (hk:k<l.length):(itcells l)[k*3]? = some (.int .i64 (itAt l k).id)∧(itcells l)[k*3+1]? = some (.int .i64 (itAt l k).size)∧(itcells l)[k*3+2]? = some (.int .i64 (itAt l k).tm):=by
 induction l generalizing k with
 |nil=>simp at hk
 |cons r l ih =>
  cases k with
  |zero=>simp [itcells_cons,itAt]
  |succ k =>
   have:=ih k (by simpa using hk)
   rw [show (k+1)*3=k*3+3 by omega]
   simpa [itcells_cons,itAt] using this
theorem itcells_one (l:List It):∀ u∈itcells l,u.oneCell'=true:=by
 intro u hu
 induction l with
 |nil=>simp [itcells] at hu
 |cons r l ih =>
  rw [itcells_cons] at hu
  simp only [List.mem_cons] at hu
  rcases hu with rfl|rfl|rfl|hu
  ·rfl
  ·rfl
  ·rfl
  ·exact ih hu
theorem itcells_set (l:List It) (k:Nat) (r:It):(((itcells l).set (k*3) (.int .i64 r.id)).set (k*3+1) (.int .i64 r.size)).set (k*3+2) (.int .i64 r.tm)=itcells (l.set k r):=by
 induction l generalizing k with
 |nil=>simp [itcells]
 |cons x l ih =>
  cases k with
  |zero=>simp [itcells_cons]
  |succ k =>
   rw [show (k+1)*3=k*3+3 by omega,List.set_cons_succ,itcells_cons,itcells_cons,← ih k]
   rfl
def ItRow (base:Nat) (w:World) (v:Value) (l:List It):Prop:=w.ownsRow base 80 3 v l.length (itcells l)
theorem ItRow.carry {base:Nat} {w w':World} {v:Value} {l:List It} (h:ItRow base w v l) (g:∀ k,v.ownBlock=some k→k<w.heap.size→w'.heap[k]? = w.heap[k]?):ItRow base w' v l:=by
 refine ⟨h.1,h.2.imp id ?_⟩
 rintro ⟨g0,cap,cur,h1,h2,h3,h4⟩
 exact ⟨g0,cap,cur,h1,h2,by rw [g g0 (by rw [h1];rfl) (Array.getElem?_eq_some_iff.1 h3).1];exact h3,h4⟩
theorem ItRow.shape {base:Nat} {w:World} {v:Value} {l:List It} (h:ItRow base w v l):∃ a cap,v = .slice a l.length cap:=by
 rcases h.2 with ⟨rfl,hn⟩|⟨g,cap,cur,rfl,_⟩
 ·rw [hn];exact ⟨none,0,rfl⟩
 ·exact ⟨_,_,rfl⟩
theorem ItRow.cap {base:Nat} {w:World} {a:Option Addr} {c:Nat} {l:List It} (h:ItRow base w (.slice a l.length c) l):l.length≤c:=by
 rcases h.2 with ⟨e,hn⟩|⟨g',c',cur,e,_,_,h4,_⟩
 ·omega
 ·cases e;exact h4
theorem ItRow.nilCap {base:Nat} {w:World} {a:Option Addr} {c:Nat} {l:List It} (h:ItRow base w (.slice a l.length c) l):a=none→c=0:=by
 intro ha
 subst ha
 rcases h.2 with ⟨e,hn⟩|⟨g',c',cur,e,_⟩
 ·simpa using (Value.slice.inj e).2.2
 ·cases e
theorem ItRow.lt {base:Nat} {w:World} {v:Value} {l:List It} (h:ItRow base w v l):∀ k,v.ownBlock=some k→base≤k∧k<w.heap.size:=World.ownsRow.lt h
theorem ItRow.mono {base base':Nat} {w:World} {v:Value} {l:List It} (h:ItRow base w v l) (hb:base'≤base):ItRow base' w v l:=⟨h.1,h.2.imp id fun ⟨g,cap,cur,h1,h2,h3⟩=>⟨g,cap,cur,h1,Nat.le_trans hb h2,h3⟩⟩
theorem ItRow.put {base:Nat} {w:World} {g cap n:Nat} {l:List It} (h:w.ownsRow base 80 3 (.slice (some ⟨g,0,none⟩) n cap) n (itcells l)) (k:Nat) (r:It) :
 (((w.setCell ⟨g,k*3,none⟩ (.int .i64 r.id)).setCell ⟨g,k*3+1,none⟩ (.int .i64 r.size)).setCell ⟨g,k*3+2,none⟩ (.int .i64 r.tm)).ownsRow base 80 3 (.slice (some ⟨g,0,none⟩) n cap) n (itcells (l.set k r)):=by
 have h1:=(h.stored (k*3) (.int .i64 r.id)).1
 have h2:=(h1.stored (k*3+1) (.int .i64 r.size)).1
 have h3:=(h2.stored (k*3+2) (.int .i64 r.tm)).1
 rw [itcells_set] at h3
 exact h3
theorem itInfo:(Tryz.prog.info? 80).map (fun i=>(i.zero,i.size,i.bytes))=some (some (.agg #[.int .i64 0,.int .i64 0,.int .i64 0]),3,24):=by kernel_rfl
theorem itMade (n:Nat):(madeCells #[Value.int .i64 0,.int .i64 0,.int .i64 0] (n*3)).toList=itcells (List.replicate n ⟨0,0,0⟩):=by
 apply List.ext_getElem?
 intro i
 by_cases hi:i<n*3
 ·obtain ⟨k,j,rfl,hj⟩:∃ k j,i=k*3+j∧j<3:=⟨i/3,i%3,by omega,Nat.mod_lt _ (by omega)⟩
  have hk:k<n:=by omega
  obtain ⟨e0,e1,e2⟩:=itcells_get (List.replicate n ⟨0,0,0⟩) k (by simpa using hk)
  have hz:itAt (List.replicate n ⟨0,0,0⟩) k=⟨0,0,0⟩:=by simp [itAt,hk]
  rw [hz] at e0 e1 e2
  have hm:(k*3+j)%3=j:=by omega
  have hL:(madeCells #[Value.int .i64 0,.int .i64 0,.int .i64 0] (n*3)).toList[k*3+j]? = some (.int .i64 0):=by
   simp [madeCells,hi,hm]
   match j,hj with
   |0,_=>rfl
   |1,_=>rfl
   |2,_=>rfl
  rw [hL]
  match j,hj with
  |0,_=>exact e0.symm
  |1,_=>exact e1.symm
  |2,_=>exact e2.symm
 ·rw [List.getElem?_eq_none (by simp [madeCells];omega),List.getElem?_eq_none (by rw [itcells_length];simp;omega)]
theorem itTakeSet (l:List It) (n k:Nat) (hn:l.length=n) (hk:k<n):(l.take k++List.replicate (n-k) (⟨0,0,0⟩:It)).set k (itAt l k)=l.take (k+1)++List.replicate (n-(k+1)) ⟨0,0,0⟩:=by
 subst hn
 rw [List.set_append_right _ _ (by simp;omega),List.take_succ_eq_append_getElem hk,itAt_lt hk]
 simp only [List.length_take,Nat.min_eq_left (Nat.le_of_lt hk),Nat.sub_self]
 obtain ⟨m,hm⟩:∃ m,l.length-k=m+1:=⟨l.length-k-1,by omega⟩
 rw [hm,show l.length-(k+1)=m by omega,List.replicate_succ,List.set_cons_zero]
 simp only [List.append_assoc,List.cons_append,List.nil_append]
def ItIn (b t:Nat) (w:World) (v:Value) (l:List It):Prop:=SlIn b t w v l.length (itcells l)
theorem itcells_ne {l:List It} (h:0<l.length):itcells l≠[]:=by
 intro e
 have:=itcells_length l
 rw [e] at this
 simp at this
 omega
theorem ItsAt.of_in {b t:Nat} {w:World} {a:Option Addr} {cap:Nat} {l:List It} (h:ItIn b t w (.slice a l.length cap) l):ItsAt w a l:=by
 intro k hk
 obtain ⟨g,off,rfl,h1,h2,h3⟩:=SlIn.some h (itcells_ne (by omega))
 have hl:=itcells_length l
 obtain ⟨e0,e1,e2⟩:=itcells_get l k hk
 refine ⟨g,off,rfl,by omega,?_,?_,?_⟩
 ·have:=(SlIn.cells h (k*3) (by omega)).1
  rw [e0] at this
  exact this
 ·have:=(SlIn.cells h (k*3+1) (by omega)).1
  rw [e1] at this
  exact this
 ·have:=(SlIn.cells h (k*3+2) (by omega)).1
  rw [e2] at this
  exact this
theorem ItIn.of_row {b t:Nat} {w:World} {v:Value} {l:List It} (h:ItRow b w v l) (ht:∀ k,v.ownBlock=some k→k<t) (hs:t≤w.heap.size):ItIn b t w v l:=SlIn.of_row h ht hs
def izAt (ls:List (List It)) (i:Nat):List It:=ls[i]?.getD []
theorem izAt_lt {ls:List (List It)} {i:Nat} (h:i<ls.length):izAt ls i=ls[i]:=by simp [izAt,List.getElem?_eq_getElem h]
def izV (vs:List Value) (i:Nat):Value:=vs[i]?.getD (.slice none 0 0)
def IzAt (w:World) (a:Option Addr) (ls:List (List It)):Prop :=
 ∀ k,k<ls.length→∃ b off ak ck,a=some ⟨b,off,none⟩∧b<w.heap.size∧w.cell? ⟨b,off+k,none⟩=some (.slice ak (izAt ls k).length ck)∧ItsAt w ak (izAt ls k)∧(izAt ls k).length≤ck∧(ak=none→ck=0)
theorem IzAt.below {w w':World} {a:Option Addr} {ls:List (List It)} (h:IzAt w a ls) (g:Bel w w'):IzAt w' a ls:=by
 intro k hk
 obtain ⟨b,off,ak,ck,e,hb,hc,hr,hl⟩:=h k hk
 exact ⟨b,off,ak,ck,e,Nat.lt_of_lt_of_le hb g.size,by rw [g.cell (p:=⟨b,off+k,none⟩) hb];exact hc,hr.below g,hl⟩
theorem IzAt.alloc {w:World} {a:Option Addr} {ls:List (List It)} (h:IzAt w a ls) (o:Obj):IzAt (w.alloc o) a ls:=h.below ((Below.refl _ _).alloc nlr _)
theorem IzAt.drew {w:World} {a:Option Addr} {ls:List (List It)} (h:IzAt w a ls):IzAt w.drew a ls:=h.below (Below.refl _ _).drew
theorem IzAt.nil (w:World) (a:Option Addr):IzAt w a []:=by intro k hk;simp at hk
structure IzV (b t:Nat) (w:World) (v:Value) (vs:List Value) (ls:List (List It)):Prop where
 outer:SlIn b t w v ls.length vs
 len:vs.length=ls.length
 row:∀ i,i<ls.length→ItIn b t w (izV vs i) (izAt ls i)
 cap:∀ i,i<ls.length→∃ a c,izV vs i = .slice a (izAt ls i).length c∧(izAt ls i).length≤c∧(a=none→c=0)
 apart:∀ i j k o,i<ls.length→j<ls.length→i≠j→Hits (izV vs i) ((izAt ls i).length*3) k o→¬ Hits (izV vs j) ((izAt ls j).length*3) k o
 free:∀ i k o,i<ls.length→Hits (izV vs i) ((izAt ls i).length*3) k o→¬ Hits v ls.length k o
def IzIn (b t:Nat) (w:World) (v:Value) (ls:List (List It)):Prop:=∃ vs,IzV b t w v vs ls
section
variable {b t:Nat} {w w':World} {v:Value} {vs:List Value} {ls:List (List It)}
theorem IzV.keep (h:IzV b t w v vs ls) (hs:w.heap.size≤w'.heap.size) (hk:∀ k,b≤k→k<t→w'.heap[k]? = w.heap[k]?):IzV b t w' v vs ls :=
 ⟨h.outer.keep hs hk,h.len,fun i hi=>SlIn.keep (h.row i hi) hs hk,h.cap,h.apart,h.free⟩
theorem IzV.below (h:IzV b t w v vs ls) (g:Bel w w'):IzV b t w' v vs ls :=
 ⟨h.outer.below g,h.len,fun i hi=>SlIn.below (h.row i hi) g,h.cap,h.apart,h.free⟩
theorem IzV.wide {b' t':Nat} (h:IzV b t w v vs ls) (hb:b'≤b) (ht:t≤t') (hs:t'≤w.heap.size):IzV b' t' w v vs ls :=
 ⟨h.outer.wide hb ht hs,h.len,fun i hi=>SlIn.wide (h.row i hi) hb ht hs,h.cap,h.apart,h.free⟩
theorem IzIn.keep (h:IzIn b t w v ls) (hs:w.heap.size≤w'.heap.size) (hk:∀ k,b≤k→k<t→w'.heap[k]? = w.heap[k]?):IzIn b t w' v ls:=by
 obtain ⟨vs,h⟩:=h
 exact ⟨vs,h.keep hs hk⟩
theorem IzIn.below (h:IzIn b t w v ls) (g:Bel w w'):IzIn b t w' v ls:=by
 obtain ⟨vs,h⟩:=h
 exact ⟨vs,h.below g⟩
theorem IzIn.wide {b' t':Nat} (h:IzIn b t w v ls) (hb:b'≤b) (ht:t≤t') (hs:t'≤w.heap.size):IzIn b' t' w v ls:=by
 obtain ⟨vs,h⟩:=h
 exact ⟨vs,h.wide hb ht hs⟩
theorem IzV.at {a:Option Addr} {c:Nat} (h:IzV b t w (.slice a ls.length c) vs ls):IzAt w a ls:=by
 intro k hk
 have hl:=h.len
 obtain ⟨g,off,rfl,h1,h2,h3⟩:=h.outer.some (by intro e;rw [e] at hl;simp at hl;omega)
 obtain ⟨ak,ck,e,hc⟩:=h.cap k hk
 refine ⟨g,off,ak,ck,rfl,by omega,?_,?_,hc⟩
 ·rw [(h.outer.cells k (by omega)).1,← e]
  unfold izV
  rw [List.getElem?_eq_getElem (by omega)]
  rfl
 ·have hr:=h.row k hk
  rw [e] at hr
  exact ItsAt.of_in hr
theorem IzIn.at {a:Option Addr} {c:Nat} (h:IzIn b t w (.slice a ls.length c) ls):IzAt w a ls:=by
 obtain ⟨vs,h⟩:=h
 exact h.at
end
def izSum (ls:List (List It)) (i:Nat):Nat:=((ls.take i).map List.length).sum
theorem izSum_zero (ls:List (List It)):izSum ls 0=0:=by simp [izSum]
theorem izSum_succ {ls:List (List It)} {i:Nat} (h:i<ls.length):izSum ls (i+1)=izSum ls i+(izAt ls i).length:=by
 unfold izSum
 rw [List.take_succ_eq_append_getElem h,List.map_append,List.sum_append,izAt_lt h]
 simp
theorem izSum_mono {ls:List (List It)} {i:Nat}:∀ {j:Nat},i≤j→j≤ls.length→izSum ls i≤izSum ls j:=by
 intro j
 induction j with
 |zero=>intro h _;rw [show i=0 by omega];exact Nat.le_refl _
 |succ j ih =>
  intro h hj
  by_cases e:i=j+1
  ·subst e;exact Nat.le_refl _
  ·rw [izSum_succ (by omega)]
   have:=ih (by omega) (by omega)
   omega
theorem izSum_one {ls:List (List It)} {i:Nat} (h:i<ls.length):(izAt ls i).length≤izSum ls ls.length:=by
 have h1:=izSum_succ h
 have h2:=izSum_mono (ls:=ls) (show i+1≤ls.length by omega) nlr
 omega
theorem izOwn {v:Value} {m k o:Nat} (h:Hits v m k o):v.ownBlock=some k:=by
 obtain ⟨off,n,cap,rfl,_⟩:=h
 rfl
theorem izV_old {vs:List Value} {u:Value} {i:Nat} (h:i<vs.length):izV (vs++[u]) i=izV vs i:=by unfold izV;rw [List.getElem?_append_left h]
theorem izV_new {vs:List Value} {u:Value}:izV (vs++[u]) vs.length=u:=by simp [izV]
theorem izInfo:(Tryz.prog.info? 78).map (fun i=>(i.zero,i.size,i.bytes))=some (some (.slice none 0 0),1,24):=by kernel_rfl
structure Rw where
 most:Int
 lists:List (List It)
def Rw.val (r:Rw) (a:Option Addr) (c:Nat):Value:=.agg #[.int .i64 r.most,.slice a r.lists.length c]
def RwAt (w:World) (v:Value) (r:Rw):Prop:=∃ a c,v=r.val a c∧IzAt w a r.lists
def RwIn (b t:Nat) (w:World) (v:Value) (r:Rw):Prop:=∃ a c,v=r.val a c∧IzIn b t w (.slice a r.lists.length c) r.lists
def Rw.big (r:Rw):Nat:=r.lists.length+izSum r.lists r.lists.length
section
variable {b t:Nat} {w w':World} {v:Value} {r:Rw}
theorem RwIn.at (h:RwIn b t w v r):RwAt w v r:=by
 obtain ⟨a,c,e,h⟩:=h
 exact ⟨a,c,e,h.at⟩
theorem RwAt.below (h:RwAt w v r) (g:Bel w w'):RwAt w' v r:=by
 obtain ⟨a,c,e,h⟩:=h
 exact ⟨a,c,e,h.below g⟩
theorem RwIn.below (h:RwIn b t w v r) (g:Bel w w'):RwIn b t w' v r:=by
 obtain ⟨a,c,e,h⟩:=h
 exact ⟨a,c,e,h.below g⟩
theorem RwIn.keep (h:RwIn b t w v r) (hs:w.heap.size≤w'.heap.size) (hk:∀ k,b≤k→k<t→w'.heap[k]? = w.heap[k]?):RwIn b t w' v r:=by
 obtain ⟨a,c,e,h⟩:=h
 exact ⟨a,c,e,h.keep hs hk⟩
end
theorem Rw.small {r:Rw} (h:r.big≤1048576):r.lists.length≤1048576∧izSum r.lists r.lists.length≤1048576∧∀ k,k<r.lists.length→(izAt r.lists k).length≤1048576:=by
 unfold Rw.big at h
 refine ⟨by omega,by omega,fun k hk=>?_⟩
 have:=izSum_one hk
 omega
end Go.Proofs.YtmfabeghfdoibaaGreat
