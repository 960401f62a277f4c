import Derived.Test.YtmfabeghfdoibaaGreatQT3IntRow
import Derived.Laws.MakeOwn
import Derived.Test.YtmfabeghfdoibaaGreatQT2Boxed
namespace Go.Proofs.YtmfabeghfdoibaaGreat
open Go.RowKit
def IntIn (b t:Nat) (w:World) (v:Value) (l:List Int):Prop:=SlIn b t w v l.length (l.map (Value.int .i64))
theorem IntsAt.of_in {b t:Nat} {w:World} {a:Option Addr} {cap:Nat} {l:List Int} (h:IntIn b t w (.slice a l.length cap) l):IntsAt w a l:=by
 intro k hk
 obtain ⟨g,off,rfl,h1,h2,h3⟩:=SlIn.some h (by intro e;rw [List.map_eq_nil_iff] at e;subst e;simp at hk)
 refine ⟨g,off,rfl,by omega,?_⟩
 have:=(SlIn.cells h k (by simpa using hk)).1
 rw [this,List.getElem?_map,List.getElem?_eq_getElem hk]
 rfl
theorem IntIn.of_row {b t:Nat} {w:World} {v:Value} {l:List Int} (h:IRow b w v l) (ht:∀ k,v.ownBlock=some k→k<t) (hs:t≤w.heap.size):IntIn b t w v l:=SlIn.of_row h ht hs
structure Fw where
 weight:Int
 finish:Int
 sizes:List Int
def Fw.val (r:Fw) (a:Option Addr) (c:Nat):Value:=.agg #[.int .i64 r.weight,.int .i64 r.finish,.slice a r.sizes.length c]
def fwAt (l:List Fw) (i:Nat):Fw:=l[i]?.getD ⟨0,0,[]⟩
theorem fwAt_lt {l:List Fw} {i:Nat} (h:i<l.length):fwAt l i=l[i]:=by simp [fwAt,List.getElem?_eq_getElem h]
theorem fwAt_set {l:List Fw} {r:Fw} {j:Nat} (h:j<l.length):fwAt (l.set j r) j=r:=by simp [fwAt,h]
theorem fwAt_other {l:List Fw} {r:Fw} {i j:Nat} (h:i≠j):fwAt (l.set j r) i=fwAt l i:=by unfold fwAt;rw [List.getElem?_set_ne (fun e=>h e.symm)]
theorem fwAt_old {l:List Fw} {r:Fw} {i:Nat} (h:i<l.length):fwAt (l++[r]) i=fwAt l i:=by unfold fwAt;rw [List.getElem?_append_left h]
theorem fwAt_new {l:List Fw} {r:Fw}:fwAt (l++[r]) l.length=r:=by simp [fwAt]
structure Fwr where
 weight:Int
 finish:Int
 hd:Value
def Fwr.cells (r:Fwr):List Value:=[.int .i64 r.weight,.int .i64 r.finish,r.hd]
def fwrAt (l:List Fwr) (i:Nat):Fwr:=l[i]?.getD ⟨0,0,.slice none 0 0⟩
theorem fwrAt_lt {l:List Fwr} {i:Nat} (h:i<l.length):fwrAt l i=l[i]:=by simp [fwrAt,List.getElem?_eq_getElem h]
theorem fwrAt_set {l:List Fwr} {r:Fwr} {j:Nat} (h:j<l.length):fwrAt (l.set j r) j=r:=by simp [fwrAt,h]
theorem fwrAt_other {l:List Fwr} {r:Fwr} {i j:Nat} (h:i≠j):fwrAt (l.set j r) i=fwrAt l i:=by unfold fwrAt;rw [List.getElem?_set_ne (fun e=>h e.symm)]
theorem fwrAt_old {l:List Fwr} {r:Fwr} {i:Nat} (h:i<l.length):fwrAt (l++[r]) i=fwrAt l i:=by unfold fwrAt;rw [List.getElem?_append_left h]
theorem fwrAt_new {l:List Fwr} {r:Fwr}:fwrAt (l++[r]) l.length=r:=by simp [fwrAt]
def fwcells (l:List Fwr):List Value:=l.flatMap Fwr.cells
theorem fwcells_cons (r:Fwr) (l:List Fwr):fwcells (r :: l) = .int .i64 r.weight :: .int .i64 r.finish :: r.hd :: fwcells l:=rfl
theorem fwcells_append (a b:List Fwr):fwcells (a++b)=fwcells a++fwcells b:=by simp [fwcells]
theorem fwcells_length (l:List Fwr):(fwcells l).length=l.length*3:=by
 induction l with
 |nil=>rfl
 |cons r l ih=>rw [fwcells_cons];simp [ih];omega
theorem fwcells_get (l:List Fwr) (k:Nat) (hk:k<l.length):(fwcells l)[k*3]? = some (.int .i64 (fwrAt l k).weight)∧(fwcells l)[k*3+1]? = some (.int .i64 (fwrAt l k).finish)∧(fwcells l)[k*3+2]? = some (fwrAt l k).hd:=by
 induction l generalizing k with
 |nil=>simp at hk
 |cons r l ih =>
  cases k with
  |zero=>simp [fwcells_cons,fwrAt]
  |succ k =>
   have:=ih k (by simpa using hk)
   rw [show (k+1)*3=k*3+3 by omega]
   simpa [fwcells_cons,fwrAt] using this
theorem fwcells_set (l:List Fwr) (k:Nat) (r:Fwr):((((fwcells l).set (k*3) (.int .i64 r.weight)).set (k*3+1) (.int .i64 r.finish)).set (k*3+2) r.hd)=fwcells (l.set k r):=by
 induction l generalizing k with
 |nil=>simp [fwcells]
 |cons x l ih =>
  cases k with
  |zero=>simp [fwcells_cons]
  |succ k =>
   rw [show (k+1)*3=k*3+3 by omega]
   simp only [fwcells_cons,List.set_cons_succ,← ih k]
theorem fwInfo:(Tryz.prog.info? 109).map (fun i=>(i.zero,i.size,i.bytes))=some (some (.agg #[.int .i64 0,.int .i64 0,.slice none 0 0]),3,40):=by kernel_rfl
def FwsAt (w:World) (a:Option Addr) (l:List Fw):Prop :=
 ∀ k,k<l.length→∃ b off ak ck,a=some ⟨b,off,none⟩∧b<w.heap.size∧(w.cell? ⟨b,off+k*3,none⟩=some (.int .i64 (fwAt l k).weight)∧w.cell? ⟨b,off+k*3+1,none⟩=some (.int .i64 (fwAt l k).finish)∧w.cell? ⟨b,off+k*3+2,none⟩=some (.slice ak (fwAt l k).sizes.length ck))∧IntsAt w ak (fwAt l k).sizes∧(fwAt l k).sizes.length≤ck∧(ak=none→ck=0)
theorem FwsAt.below {w w':World} {a:Option Addr} {l:List Fw} (h:FwsAt w a l) (gr:Bel w w'):FwsAt w' a l:=by
 intro k hk
 obtain ⟨b,off,ak,ck,e,hb,⟨c0,c1,c2⟩,hr,hl⟩:=h k hk
 exact ⟨b,off,ak,ck,e,Nat.lt_of_lt_of_le hb gr.size,⟨by rw [gr.cell (p:=⟨b,off+k*3,none⟩) hb];exact c0,by rw [gr.cell (p:=⟨b,off+k*3+1,none⟩) hb];exact c1,by rw [gr.cell (p:=⟨b,off+k*3+2,none⟩) hb];exact c2⟩,hr.below gr,hl⟩
theorem FwsAt.alloc {w:World} {a:Option Addr} {l:List Fw} (h:FwsAt w a l) (o:Obj):FwsAt (w.alloc o) a l:=h.below ((Below.refl _ _).alloc nlr _)
theorem FwsAt.nil (w:World) (a:Option Addr):FwsAt w a []:=by intro k hk;simp at hk
structure FwV (b t:Nat) (w:World) (v:Value) (rs:List Fwr) (l:List Fw):Prop where
 outer:SlIn b t w v l.length (fwcells rs)
 len:rs.length=l.length
 num:∀ i,i<l.length→(fwrAt rs i).weight=(fwAt l i).weight∧(fwrAt rs i).finish=(fwAt l i).finish
 row:∀ i,i<l.length→IntIn b t w (fwrAt rs i).hd (fwAt l i).sizes
 cap:∀ i,i<l.length→∃ a c,(fwrAt rs i).hd = .slice a (fwAt l i).sizes.length c∧(fwAt l i).sizes.length≤c∧(a=none→c=0)
 apart:∀ i j k o,i<l.length→j<l.length→i≠j→Hits (fwrAt rs i).hd (fwAt l i).sizes.length k o→¬ Hits (fwrAt rs j).hd (fwAt l j).sizes.length k o
 free:∀ i k o,i<l.length→Hits (fwrAt rs i).hd (fwAt l i).sizes.length k o→¬ Hits v (l.length*3) k o
def FwsIn (b t:Nat) (w:World) (v:Value) (l:List Fw):Prop:=∃ rs,FwV b t w v rs l
section
variable {b t:Nat} {w w':World} {v:Value} {rs:List Fwr} {l:List Fw}
theorem FwV.keep (h:FwV b t w v rs l) (hs:w.heap.size≤w'.heap.size) (hk:∀ k,b≤k→k<t→w'.heap[k]? = w.heap[k]?):FwV b t w' v rs l :=
 ⟨h.outer.keep hs hk,h.len,h.num,fun i hi=>SlIn.keep (h.row i hi) hs hk,h.cap,h.apart,h.free⟩
theorem FwV.below (h:FwV b t w v rs l) (gr:Bel w w'):FwV b t w' v rs l :=
 ⟨h.outer.below gr,h.len,h.num,fun i hi=>SlIn.below (h.row i hi) gr,h.cap,h.apart,h.free⟩
theorem FwV.wide {b' t':Nat} (h:FwV b t w v rs l) (hb:b'≤b) (ht:t≤t') (hs:t'≤w.heap.size):FwV b' t' w v rs l :=
 ⟨h.outer.wide hb ht hs,h.len,h.num,fun i hi=>SlIn.wide (h.row i hi) hb ht hs,h.cap,h.apart,h.free⟩
theorem FwsIn.keep (h:FwsIn b t w v l) (hs:w.heap.size≤w'.heap.size) (hk:∀ k,b≤k→k<t→w'.heap[k]? = w.heap[k]?):FwsIn b t w' v l:=by
 obtain ⟨rs,h⟩:=h
 exact ⟨rs,h.keep hs hk⟩
theorem FwsIn.below (h:FwsIn b t w v l) (gr:Bel w w'):FwsIn b t w' v l:=by
 obtain ⟨rs,h⟩:=h
 exact ⟨rs,h.below gr⟩
theorem FwsIn.wide {b' t':Nat} (h:FwsIn b t w v l) (hb:b'≤b) (ht:t≤t') (hs:t'≤w.heap.size):FwsIn b' t' w v l:=by
 obtain ⟨rs,h⟩:=h
 exact ⟨rs,h.wide hb ht hs⟩
theorem FwV.at {a:Option Addr} {c:Nat} (h:FwV b t w (.slice a l.length c) rs l):FwsAt w a l:=by
 intro k hk
 have hl:=h.len
 have hcl:=fwcells_length rs
 obtain ⟨g0,off,rfl,h1,h2,h3⟩:=h.outer.some (by intro e;rw [e] at hcl;simp at hcl;omega)
 obtain ⟨ak,ck,e,hc⟩:=h.cap k hk
 obtain ⟨e0,e1,e2⟩:=fwcells_get rs k (by omega)
 obtain ⟨n0,n1⟩:=h.num k hk
 refine ⟨g0,off,ak,ck,rfl,by omega,⟨?_,?_,?_⟩,?_,hc⟩
 ·have:=(h.outer.cells (k*3) (by omega)).1
  rw [e0,Option.getD_some,n0] at this
  exact this
 ·have:=(h.outer.cells (k*3+1) (by omega)).1
  rw [e1,Option.getD_some,n1] at this
  exact this
 ·have:=(h.outer.cells (k*3+2) (by omega)).1
  rw [e2,Option.getD_some,e] at this
  exact this
 ·have hr:=h.row k hk
  rw [e] at hr
  exact IntsAt.of_in hr
theorem FwsIn.at {a:Option Addr} {c:Nat} (h:FwsIn b t w (.slice a l.length c) l):FwsAt w a l:=by
 obtain ⟨rs,h⟩:=h
 exact h.at
theorem FwV.nums (h:FwV b t w v rs l) {j:Nat} (hj:j<l.length) {r':Fw} (hg:r'.sizes=(fwAt l j).sizes) (ho:SlIn b t w' v l.length (fwcells (rs.set j ⟨r'.weight,r'.finish,(fwrAt rs j).hd⟩))) (ht:Turn (Hits v (l.length*3)) w w') :
 FwV b t w' v (rs.set j ⟨r'.weight,r'.finish,(fwrAt rs j).hd⟩) (l.set j r'):=by
 have hl:=h.len
 have e1:∀ i,(fwrAt (rs.set j ⟨r'.weight,r'.finish,(fwrAt rs j).hd⟩) i).hd=(fwrAt rs i).hd:=fun i=>by
  by_cases hij:i=j
  ·subst hij;rw [fwrAt_set (by omega)]
  ·rw [fwrAt_other hij]
 have e2:∀ i,(fwAt (l.set j r') i).sizes=(fwAt l i).sizes:=fun i=>by
  by_cases hij:i=j
  ·subst hij;rw [fwAt_set hj,hg]
  ·rw [fwAt_other hij]
 refine ⟨by rw [List.length_set];exact ho,by rw [List.length_set,List.length_set,hl],fun i hi=>?_,fun i hi=>?_,fun i hi=>?_,fun i k x o hi hk hne=>?_,fun i x o hi=>?_⟩
 ·rw [List.length_set] at hi
  by_cases hij:i=j
  ·subst hij;rw [fwrAt_set (by omega),fwAt_set hj];exact ⟨rfl,rfl⟩
  ·rw [fwrAt_other hij,fwAt_other hij];exact h.num i hi
 ·rw [List.length_set] at hi
  rw [e1,e2]
  exact SlIn.turn (h.row i hi) ht fun k o hh hx=>h.free i k o hi (by simpa using hh) hx
 ·rw [List.length_set] at hi
  rw [e1,e2]
  exact h.cap i hi
 ·rw [List.length_set] at hi hk
  rw [e1,e1,e2,e2]
  exact h.apart i k x o hi hk hne
 ·rw [List.length_set] at hi ⊢
  rw [e1,e2]
  exact h.free i x o hi
theorem FwV.list (h:FwV b t w v rs l) {j:Nat} (hj:j<l.length) {r':Fw} (hweight:r'.weight=(fwAt l j).weight) ( hfinish:r'.finish=(fwAt l j).finish) (hg:r'.sizes.length=(fwAt l j).sizes.length) (hr:IntIn b t w' (fwrAt rs j).hd r'.sizes) (ht:Turn (Hits (fwrAt rs j).hd (fwAt l j).sizes.length) w w') :
 FwV b t w' v rs (l.set j r'):=by
 have hl:=h.len
 have e2:∀ i,(fwAt (l.set j r') i).sizes.length=(fwAt l i).sizes.length:=fun i=>by
  by_cases hij:i=j
  ·subst hij;rw [fwAt_set hj,hg]
  ·rw [fwAt_other hij]
 refine ⟨?_,by rw [List.length_set,hl],fun i hi=>?_,fun i hi=>?_,fun i hi=>?_,fun i k x o hi hk hne=>?_,fun i x o hi=>?_⟩
 ·rw [List.length_set]
  refine h.outer.turn ht fun k o hh hx=>h.free j k o hj hx ?_
  rw [fwcells_length,hl] at hh
  exact hh
 ·rw [List.length_set] at hi
  by_cases hij:i=j
  ·subst hij;rw [fwAt_set hj,hweight,hfinish];exact h.num i hi
  ·rw [fwAt_other hij];exact h.num i hi
 ·rw [List.length_set] at hi
  by_cases hij:i=j
  ·subst hij;rw [fwAt_set hj];exact hr
  ·rw [fwAt_other hij]
   exact SlIn.turn (h.row i hi) ht fun k o hh hx=>h.apart i j k o hi hj hij (by simpa using hh) hx
 ·rw [List.length_set] at hi
  rw [e2]
  exact h.cap i hi
 ·rw [List.length_set] at hi hk
  rw [e2,e2]
  exact h.apart i k x o hi hk hne
 ·rw [List.length_set] at hi ⊢
  rw [e2]
  exact h.free i x o hi
end
def fwSum (l:List Fw) (i:Nat):Nat:=((l.take i).map fun r=>r.sizes.length).sum
theorem fwSum_zero (l:List Fw):fwSum l 0=0:=by simp [fwSum]
theorem fwSum_succ {l:List Fw} {i:Nat} (h:i<l.length):fwSum l (i+1)=fwSum l i+(fwAt l i).sizes.length:=by
 unfold fwSum
 rw [List.take_succ_eq_append_getElem h,List.map_append,List.sum_append,fwAt_lt h]
 simp
theorem fwSum_mono {l:List Fw} {i:Nat}:∀ {j:Nat},i≤j→j≤l.length→fwSum l i≤fwSum l j:=by
 intro j
 induction j with
 |zero=>intro h _;rw [show i=0 by omega];exact Nat.le_refl _
 |succ j ih =>
  intro h hj
  by_cases e:i=j+1
  ·subst e;exact Nat.le_refl _
  ·rw [fwSum_succ (by omega)]
   have:=ih (by omega) (by omega)
   omega
theorem fwSum_one {l:List Fw} {i:Nat} (h:i<l.length):(fwAt l i).sizes.length≤fwSum l l.length:=by
 have h1:=fwSum_succ h
 have h2:=fwSum_mono (l:=l) (show i+1≤l.length by omega) nlr
 omega
theorem fwOwn {v:Value} {n k o:Nat} (h:Hits v n k o):v.ownBlock=some k:=by
 obtain ⟨off,n,cap,rfl,_⟩:=h
 rfl
structure Fs where
 now:Int
 flows:List Fw
def Fs.val (r:Fs) (a:Option Addr) (c:Nat):Value:=.agg #[.int .i64 r.now,.slice a r.flows.length c]
def FsAt (w:World) (v:Value) (r:Fs):Prop:=∃ a c,v=r.val a c∧FwsAt w a r.flows
def FsIn (b t:Nat) (w:World) (v:Value) (r:Fs):Prop:=∃ a c,v=r.val a c∧FwsIn b t w (.slice a r.flows.length c) r.flows
def Fs.big (r:Fs):Nat:=r.flows.length+fwSum r.flows r.flows.length
section
variable {b t:Nat} {w w':World} {v:Value} {r:Fs}
theorem FsIn.at (h:FsIn b t w v r):FsAt w v r:=by
 obtain ⟨a,c,e,h⟩:=h
 exact ⟨a,c,e,h.at⟩
theorem FsAt.below (h:FsAt w v r) (g:Bel w w'):FsAt w' v r:=by
 obtain ⟨a,c,e,h⟩:=h
 exact ⟨a,c,e,h.below g⟩
theorem FsIn.below (h:FsIn b t w v r) (g:Bel w w'):FsIn b t w' v r:=by
 obtain ⟨a,c,e,h⟩:=h
 exact ⟨a,c,e,h.below g⟩
theorem FsIn.keep (h:FsIn b t w v r) (hs:w.heap.size≤w'.heap.size) (hk:∀ k,b≤k→k<t→w'.heap[k]? = w.heap[k]?):FsIn b t w' v r:=by
 obtain ⟨a,c,e,h⟩:=h
 exact ⟨a,c,e,h.keep hs hk⟩
end
theorem Fs.small {r:Fs} (h:r.big≤1048576):r.flows.length≤1048576∧fwSum r.flows r.flows.length≤1048576∧∀ k,k<r.flows.length→(fwAt r.flows k).sizes.length≤1048576:=by
 unfold Fs.big at h
 refine ⟨by omega,by omega,fun k hk=>?_⟩
 have:=fwSum_one hk
 omega
end Go.Proofs.YtmfabeghfdoibaaGreat
