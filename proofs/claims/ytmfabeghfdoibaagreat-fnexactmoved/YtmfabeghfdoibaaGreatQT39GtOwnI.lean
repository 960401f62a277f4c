import Derived.Test.YtmfabeghfdoibaaGreatQT22RwAll
import Derived.Test.YtmfabeghfdoibaaGreatQT31GtZc
import Derived.Test.YtmfabeghfdoibaaGreatQT35GtVar
import Derived.Test.YtmfabeghfdoibaaGreatQT18GtZero
import Derived.Test.YtmfabeghfdoibaaGreatQT38FsOwn
set_option maxHeartbeats 12800000
set_option maxRecDepth 100000
namespace Go.Proofs.YtmfabeghfdoibaaGreat
open Go.RowKit
theorem rtcopy_none (w:World) (ty:TypeId) (d s:Option Addr) (dc sc:Nat) :
 (Builtin.copy_ #[39,39] ty #[.slice d 0 dc,.slice s 0 sc]).run Tryz.prog w = .ok (goInt 0) w:=by
 obtain ⟨i0,hi0,hz0,hz1,hz2⟩:=info_parts rtInfo
 have hl:∀ (x:Addr),(loadCells x 0).run Tryz.prog w = .ok #[] w:=fun x=>by simpa using run_loadCells_list (P:=Tryz.prog) w x [] (by simp)
 cases d<;>cases s<;>simp [Builtin.copy_,run_underlying Tryz.underlying39,Builtin.lenOf,Builtin.firstCells,sizeOf,typeInfo,hi0,storeCells,hl]
theorem rtcopy_run (w:World) (ty:TypeId) (g:Nat) (a:Option Addr) (sCap:Nat) (l:List Rt) (cur:Array Value)
 (hg:w.heap[g]? = some (.cells cur 148 (0,0))) (hc:cur.size=l.length*3) (h:RtsAt w a l) :
 (Builtin.copy_ #[39,39] ty #[.slice (some ⟨g,0,none⟩) l.length l.length,.slice a l.length sCap]).run Tryz.prog w =
  .ok (.int .i64 (l.length:Int)) (w.setRow g (rtcells l).toArray):=by
 obtain ⟨i0,hi0,hz0,hz1,hz2⟩:=info_parts rtInfo
 cases l with
 |nil =>
  have e:w.setRow g (rtcells []).toArray=w:=by
   obtain rfl:cur=#[]:=by simpa using hc
   exact setRow_self w g _ _ _ hg
  rw [e]
  exact rtcopy_none w ty _ _ _ _
 |cons x xs =>
  obtain ⟨b,off,ha,_⟩:=h 0 (by simp)
  subst ha
  have hsrc:∀ j v,(rtcells (x :: xs))[j]? = some v→w.cell? ((⟨b,off,none⟩:Addr).add j)=some v:=by
   intro j u hj
   have hj':j<(x :: xs).length*3:=by
    have:=(List.getElem?_eq_some_iff.1 hj).1
    rwa [rtcells_length] at this
   obtain ⟨k,i,rfl,hi⟩:∃ k i,j=k*3+i∧i<3:=⟨j/3,j%3,by omega,Nat.mod_lt _ (by omega)⟩
   have hk:k<(x :: xs).length:=by omega
   obtain ⟨b',off',e,_,c0,c1,c2⟩:=h k hk
   cases e
   obtain ⟨e0,e1,e2⟩:=rtcells_get (x :: xs) k hk
   rw [show (⟨b,off,none⟩:Addr).add (k*3+i)=⟨b,off+k*3+i,none⟩ by by_cases h0:k*3+i=0<;>simp [Addr.add,h0,Nat.add_assoc];omega]
   match i,hi with
   |0,_=>rw [Nat.add_zero] at hj;rw [e0] at hj;rw [Nat.add_zero,c0];exact hj
   |1,_=>rw [e1] at hj;rw [c1];exact hj
   |2,_=>rw [e2] at hj;rw [c2];exact hj
  generalize hL:x :: xs=L at *
  have hl:=run_loadCells_list (P:=Tryz.prog) w ⟨b,off,none⟩ (rtcells L) hsrc
  have hst:=run_storeCells_at Tryz.prog g 0 148 (rtcells L) 0 cur w hg (by simp [rtcells_length,hc]) (rtcells_one L)
  have e1:(cur.toList.take 0++rtcells L++cur.toList.drop (0+(rtcells L).length))=rtcells L:=by
   rw [List.take_zero,List.nil_append,Nat.zero_add,rtcells_length,← hc,← Array.length_toList,List.drop_length,List.append_nil]
  rw [Nat.add_zero,e1] at hst
  have hm:Nat.min L.length L.length=L.length:=Nat.min_self _
  rw [rtcells_length] at hl
  simp [Builtin.copy_,run_underlying Tryz.underlying39,Builtin.lenOf,Builtin.firstCells,sizeOf,typeInfo,hi0,hz1,hm,hl,hst]
  rfl
theorem implCopyRt (a:Option Addr) (cap:Nat) (l:List Rt) (w:World) (hT:l.length≤1048576) (h:Hid (RtsAt w a l)) :
 Calls Tryz.prog 98 #[.slice a l.length cap] w fun e w'=>∃ g,e = .returned (.slice (some ⟨g,0,none⟩) l.length l.length)∧RtRow w.heap.size w' (.slice (some ⟨g,0,none⟩) l.length l.length) l∧Below w.heap.size w w':=by
 obtain ⟨i0,hi,hz0,hz1,hz2⟩:=info_parts rtInfo
 have hgm:(w.alloc (.cells (madeCells #[.int .i64 0,.int .i64 0,.int .i64 0] (l.length*3)) 148)).heap[w.heap.size]? = some (.cells (madeCells #[.int .i64 0,.int .i64 0,.int .i64 0] (l.length*3)) 148 (0,0)):=by
  show (w.heap.push _)[w.heap.size]? = _
  simp
 have hcp:=fun ty=>rtcopy_run (w.alloc (.cells (madeCells #[.int .i64 0,.int .i64 0,.int .i64 0] (l.length*3)) 148)) ty w.heap.size a cap l _ hgm (by rw [size_madeCells]) (h.out.alloc _)
 have Fin:Hid (RtRow w.heap.size ((w.alloc (.cells (madeCells #[.int .i64 0,.int .i64 0,.int .i64 0] (l.length*3)) 148)).setRow w.heap.size (rtcells l).toArray) (.slice (some ⟨w.heap.size,0,none⟩) l.length l.length) l∧Below w.heap.size w ((w.alloc (.cells (madeCells #[.int .i64 0,.int .i64 0,.int .i64 0] (l.length*3)) 148)).setRow w.heap.size (rtcells l).toArray)):=by
  refine ⟨⟨rtcells_length l,.inr ⟨w.heap.size,l.length,(rtcells l).toArray,rfl,nlr,setRow_heap _ _ _ _ _ _ hgm,nlr,by unfold maxLen;omega,by simp [rtcells_length],?_⟩⟩,?_⟩
  ·simp [← rtcells_length]
  ·have b:Below w.heap.size w (w.alloc (.cells (madeCells #[.int .i64 0,.int .i64 0,.int .i64 0] (l.length*3)) 148)):=(Below.refl _ _).alloc nlr _
   exact b.trans ⟨rfl,rfl,rfl,by simp [World.setRow],fun k hk=>setRow_other _ _ k _ (by omega)⟩
 clear hgm
 obtain ⟨len,hlen⟩:∃ n,l.length=n:=⟨_,rfl⟩
 rw [hlen] at hT hcp Fin ⊢
 clear hlen
 have hmk:∀ wx,(Instr.makeSlice 39 (.int .i64 (len:Int)) (.int .i64 (len:Int))).run Tryz.prog wx = .ok (.slice (some ⟨wx.heap.size,0,none⟩) len len) (wx.alloc (.cells (madeCells #[.int .i64 0,.int .i64 0,.int .i64 0] (len*3)) 148)):=by
  intro wx
  have:=run_make (P:=Tryz.prog) wx 39 148 i0 (.agg #[.int .i64 0,.int .i64 0,.int .i64 0]) Tryz.underlying39 hi hz0 .i64 .i64 len len (by omega) (by omega) (by rw [hz2];omega) (by omega)
  rw [this,hz1];simp [Value.cells]
 clear hi hz0 hz1 hz2
 generalize (w.alloc (.cells (madeCells #[.int .i64 0,.int .i64 0,.int .i64 0] (len*3)) 148)).setRow w.heap.size (rtcells l).toArray=W2 at hcp Fin
 go_enter Tryz.func98,Tryz.ntmps98
 go_wp2
 go_ret
 exact ⟨_,rfl,Fin.out⟩
theorem rucopy_none (w:World) (ty:TypeId) (d s:Option Addr) (dc sc:Nat) :
 (Builtin.copy_ #[40,40] ty #[.slice d 0 dc,.slice s 0 sc]).run Tryz.prog w = .ok (goInt 0) w:=by
 obtain ⟨i0,hi0,hz0,hz1,hz2⟩:=info_parts ruInfo
 have hl:∀ (x:Addr),(loadCells x 0).run Tryz.prog w = .ok #[] w:=fun x=>by simpa using run_loadCells_list (P:=Tryz.prog) w x [] (by simp)
 cases d<;>cases s<;>simp [Builtin.copy_,run_underlying Tryz.underlying40,Builtin.lenOf,Builtin.firstCells,sizeOf,typeInfo,hi0,storeCells,hl]
theorem rucopy_run (w:World) (ty:TypeId) (g:Nat) (a:Option Addr) (sCap:Nat) (l:List Ru) (cur:Array Value)
 (hg:w.heap[g]? = some (.cells cur 152 (0,0))) (hc:cur.size=l.length*10) (h:RusAt w a l) :
 (Builtin.copy_ #[40,40] ty #[.slice (some ⟨g,0,none⟩) l.length l.length,.slice a l.length sCap]).run Tryz.prog w =
  .ok (.int .i64 (l.length:Int)) (w.setRow g (rucells l).toArray):=by
 obtain ⟨i0,hi0,hz0,hz1,hz2⟩:=info_parts ruInfo
 cases l with
 |nil =>
  have e:w.setRow g (rucells []).toArray=w:=by
   obtain rfl:cur=#[]:=by simpa using hc
   exact setRow_self w g _ _ _ hg
  rw [e]
  exact rucopy_none w ty _ _ _ _
 |cons x xs =>
  obtain ⟨b,off,ha,_⟩:=h 0 (by simp)
  subst ha
  have hsrc:∀ j v,(rucells (x :: xs))[j]? = some v→w.cell? ((⟨b,off,none⟩:Addr).add j)=some v:=by
   intro j u hj
   have hj':j<(x :: xs).length*10:=by
    have:=(List.getElem?_eq_some_iff.1 hj).1
    rwa [rucells_length] at this
   obtain ⟨k,i,rfl,hi⟩:∃ k i,j=k*10+i∧i<10:=⟨j/10,j%10,by omega,Nat.mod_lt _ (by omega)⟩
   have hk:k<(x :: xs).length:=by omega
   obtain ⟨b',off',e,_,c0,c1,c2,c3,c4,c5,c6,c7,c8,c9⟩:=h k hk
   cases e
   obtain ⟨e0,e1,e2,e3,e4,e5,e6,e7,e8,e9⟩:=rucells_get (x :: xs) k hk
   rw [show (⟨b,off,none⟩:Addr).add (k*10+i)=⟨b,off+k*10+i,none⟩ by by_cases h0:k*10+i=0<;>simp [Addr.add,h0,Nat.add_assoc];omega]
   match i,hi with
   |0,_=>rw [Nat.add_zero] at hj;rw [e0] at hj;rw [Nat.add_zero,c0];exact hj
   |1,_=>rw [e1] at hj;rw [c1];exact hj
   |2,_=>rw [e2] at hj;rw [c2];exact hj
   |3,_=>rw [e3] at hj;rw [c3];exact hj
   |4,_=>rw [e4] at hj;rw [c4];exact hj
   |5,_=>rw [e5] at hj;rw [c5];exact hj
   |6,_=>rw [e6] at hj;rw [c6];exact hj
   |7,_=>rw [e7] at hj;rw [c7];exact hj
   |8,_=>rw [e8] at hj;rw [c8];exact hj
   |9,_=>rw [e9] at hj;rw [c9];exact hj
  generalize hL:x :: xs=L at *
  have hl:=run_loadCells_list (P:=Tryz.prog) w ⟨b,off,none⟩ (rucells L) hsrc
  have hst:=run_storeCells_at Tryz.prog g 0 152 (rucells L) 0 cur w hg (by simp [rucells_length,hc]) (rucells_one L)
  have e1:(cur.toList.take 0++rucells L++cur.toList.drop (0+(rucells L).length))=rucells L:=by
   rw [List.take_zero,List.nil_append,Nat.zero_add,rucells_length,← hc,← Array.length_toList,List.drop_length,List.append_nil]
  rw [Nat.add_zero,e1] at hst
  have hm:Nat.min L.length L.length=L.length:=Nat.min_self _
  rw [rucells_length] at hl
  simp [Builtin.copy_,run_underlying Tryz.underlying40,Builtin.lenOf,Builtin.firstCells,sizeOf,typeInfo,hi0,hz1,hm,hl,hst]
  rfl
theorem implCopyRu (a:Option Addr) (cap:Nat) (l:List Ru) (w:World) (hT:l.length≤1048576) (h:Hid (RusAt w a l)) :
 Calls Tryz.prog 99 #[.slice a l.length cap] w fun e w'=>∃ g,e = .returned (.slice (some ⟨g,0,none⟩) l.length l.length)∧RuRow w.heap.size w' (.slice (some ⟨g,0,none⟩) l.length l.length) l∧Below w.heap.size w w':=by
 obtain ⟨i0,hi,hz0,hz1,hz2⟩:=info_parts ruInfo
 have hgm:(w.alloc (.cells (madeCells #[.int .i64 0,.int .i64 0,.int .i64 0,.int .i64 0,.int .i64 0,.int .i64 0,.int .i64 0,.int .i64 0,.int .i64 0,.int .i64 0] (l.length*10)) 152)).heap[w.heap.size]? = some (.cells (madeCells #[.int .i64 0,.int .i64 0,.int .i64 0,.int .i64 0,.int .i64 0,.int .i64 0,.int .i64 0,.int .i64 0,.int .i64 0,.int .i64 0] (l.length*10)) 152 (0,0)):=by
  show (w.heap.push _)[w.heap.size]? = _
  simp
 have hcp:=fun ty=>rucopy_run (w.alloc (.cells (madeCells #[.int .i64 0,.int .i64 0,.int .i64 0,.int .i64 0,.int .i64 0,.int .i64 0,.int .i64 0,.int .i64 0,.int .i64 0,.int .i64 0] (l.length*10)) 152)) ty w.heap.size a cap l _ hgm (by rw [size_madeCells]) (h.out.alloc _)
 have Fin:Hid (RuRow w.heap.size ((w.alloc (.cells (madeCells #[.int .i64 0,.int .i64 0,.int .i64 0,.int .i64 0,.int .i64 0,.int .i64 0,.int .i64 0,.int .i64 0,.int .i64 0,.int .i64 0] (l.length*10)) 152)).setRow w.heap.size (rucells l).toArray) (.slice (some ⟨w.heap.size,0,none⟩) l.length l.length) l∧Below w.heap.size w ((w.alloc (.cells (madeCells #[.int .i64 0,.int .i64 0,.int .i64 0,.int .i64 0,.int .i64 0,.int .i64 0,.int .i64 0,.int .i64 0,.int .i64 0,.int .i64 0] (l.length*10)) 152)).setRow w.heap.size (rucells l).toArray)):=by
  refine ⟨⟨rucells_length l,.inr ⟨w.heap.size,l.length,(rucells l).toArray,rfl,nlr,setRow_heap _ _ _ _ _ _ hgm,nlr,by unfold maxLen;omega,by simp [rucells_length],?_⟩⟩,?_⟩
  ·simp [← rucells_length]
  ·have b:Below w.heap.size w (w.alloc (.cells (madeCells #[.int .i64 0,.int .i64 0,.int .i64 0,.int .i64 0,.int .i64 0,.int .i64 0,.int .i64 0,.int .i64 0,.int .i64 0,.int .i64 0] (l.length*10)) 152)):=(Below.refl _ _).alloc nlr _
   exact b.trans ⟨rfl,rfl,rfl,by simp [World.setRow],fun k hk=>setRow_other _ _ k _ (by omega)⟩
 clear hgm
 obtain ⟨len,hlen⟩:∃ n,l.length=n:=⟨_,rfl⟩
 rw [hlen] at hT hcp Fin ⊢
 clear hlen
 have hmk:∀ wx,(Instr.makeSlice 40 (.int .i64 (len:Int)) (.int .i64 (len:Int))).run Tryz.prog wx = .ok (.slice (some ⟨wx.heap.size,0,none⟩) len len) (wx.alloc (.cells (madeCells #[.int .i64 0,.int .i64 0,.int .i64 0,.int .i64 0,.int .i64 0,.int .i64 0,.int .i64 0,.int .i64 0,.int .i64 0,.int .i64 0] (len*10)) 152)):=by
  intro wx
  have:=run_make (P:=Tryz.prog) wx 40 152 i0 (.agg #[.int .i64 0,.int .i64 0,.int .i64 0,.int .i64 0,.int .i64 0,.int .i64 0,.int .i64 0,.int .i64 0,.int .i64 0,.int .i64 0]) Tryz.underlying40 hi hz0 .i64 .i64 len len (by omega) (by omega) (by rw [hz2];omega) (by omega)
  rw [this,hz1];simp [Value.cells]
 clear hi hz0 hz1 hz2
 generalize (w.alloc (.cells (madeCells #[.int .i64 0,.int .i64 0,.int .i64 0,.int .i64 0,.int .i64 0,.int .i64 0,.int .i64 0,.int .i64 0,.int .i64 0,.int .i64 0] (len*10)) 152)).setRow w.heap.size (rucells l).toArray=W2 at hcp Fin
 go_enter Tryz.func99,Tryz.ntmps99
 go_wp2
 go_ret
 exact ⟨_,rfl,Fin.out⟩
theorem ndcopy_none (w:World) (ty:TypeId) (d s:Option Addr) (dc sc:Nat) :
 (Builtin.copy_ #[41,41] ty #[.slice d 0 dc,.slice s 0 sc]).run Tryz.prog w = .ok (goInt 0) w:=by
 obtain ⟨i0,hi0,hz0,hz1,hz2⟩:=info_parts ndInfo
 have hl:∀ (x:Addr),(loadCells x 0).run Tryz.prog w = .ok #[] w:=fun x=>by simpa using run_loadCells_list (P:=Tryz.prog) w x [] (by simp)
 cases d<;>cases s<;>simp [Builtin.copy_,run_underlying Tryz.underlying41,Builtin.lenOf,Builtin.firstCells,sizeOf,typeInfo,hi0,storeCells,hl]
theorem ndcopy_run (w:World) (ty:TypeId) (g:Nat) (a:Option Addr) (sCap:Nat) (l:List Nd) (cur:Array Value)
 (hg:w.heap[g]? = some (.cells cur 77 (0,0))) (hc:cur.size=l.length*5) (h:NdsAt w a l) :
 (Builtin.copy_ #[41,41] ty #[.slice (some ⟨g,0,none⟩) l.length l.length,.slice a l.length sCap]).run Tryz.prog w =
  .ok (.int .i64 (l.length:Int)) (w.setRow g (ndcells l).toArray):=by
 obtain ⟨i0,hi0,hz0,hz1,hz2⟩:=info_parts ndInfo
 cases l with
 |nil =>
  have e:w.setRow g (ndcells []).toArray=w:=by
   obtain rfl:cur=#[]:=by simpa using hc
   exact setRow_self w g _ _ _ hg
  rw [e]
  exact ndcopy_none w ty _ _ _ _
 |cons x xs =>
  obtain ⟨b,off,ha,_⟩:=h 0 (by simp)
  subst ha
  have hsrc:∀ j v,(ndcells (x :: xs))[j]? = some v→w.cell? ((⟨b,off,none⟩:Addr).add j)=some v:=by
   intro j u hj
   have hj':j<(x :: xs).length*5:=by
    have:=(List.getElem?_eq_some_iff.1 hj).1
    rwa [ndcells_length] at this
   obtain ⟨k,i,rfl,hi⟩:∃ k i,j=k*5+i∧i<5:=⟨j/5,j%5,by omega,Nat.mod_lt _ (by omega)⟩
   have hk:k<(x :: xs).length:=by omega
   obtain ⟨b',off',e,_,c0,c1,c2,c3,c4⟩:=h k hk
   cases e
   obtain ⟨e0,e1,e2,e3,e4⟩:=ndcells_get (x :: xs) k hk
   rw [show (⟨b,off,none⟩:Addr).add (k*5+i)=⟨b,off+k*5+i,none⟩ by by_cases h0:k*5+i=0<;>simp [Addr.add,h0,Nat.add_assoc];omega]
   match i,hi with
   |0,_=>rw [Nat.add_zero] at hj;rw [e0] at hj;rw [Nat.add_zero,c0];exact hj
   |1,_=>rw [e1] at hj;rw [c1];exact hj
   |2,_=>rw [e2] at hj;rw [c2];exact hj
   |3,_=>rw [e3] at hj;rw [c3];exact hj
   |4,_=>rw [e4] at hj;rw [c4];exact hj
  generalize hL:x :: xs=L at *
  have hl:=run_loadCells_list (P:=Tryz.prog) w ⟨b,off,none⟩ (ndcells L) hsrc
  have hst:=run_storeCells_at Tryz.prog g 0 77 (ndcells L) 0 cur w hg (by simp [ndcells_length,hc]) (ndcells_one L)
  have e1:(cur.toList.take 0++ndcells L++cur.toList.drop (0+(ndcells L).length))=ndcells L:=by
   rw [List.take_zero,List.nil_append,Nat.zero_add,ndcells_length,← hc,← Array.length_toList,List.drop_length,List.append_nil]
  rw [Nat.add_zero,e1] at hst
  have hm:Nat.min L.length L.length=L.length:=Nat.min_self _
  rw [ndcells_length] at hl
  simp [Builtin.copy_,run_underlying Tryz.underlying41,Builtin.lenOf,Builtin.firstCells,sizeOf,typeInfo,hi0,hz1,hm,hl,hst]
  rfl
theorem implCopyNd (a:Option Addr) (cap:Nat) (l:List Nd) (w:World) (hT:l.length≤1048576) (h:Hid (NdsAt w a l)) :
 Calls Tryz.prog 100 #[.slice a l.length cap] w fun e w'=>∃ g,e = .returned (.slice (some ⟨g,0,none⟩) l.length l.length)∧NdRow w.heap.size w' (.slice (some ⟨g,0,none⟩) l.length l.length) l∧Below w.heap.size w w':=by
 obtain ⟨i0,hi,hz0,hz1,hz2⟩:=info_parts ndInfo
 have hgm:(w.alloc (.cells (madeCells #[.int .i64 0,.int .i64 0,.int .i64 0,.int .i64 0,.int .i64 0] (l.length*5)) 77)).heap[w.heap.size]? = some (.cells (madeCells #[.int .i64 0,.int .i64 0,.int .i64 0,.int .i64 0,.int .i64 0] (l.length*5)) 77 (0,0)):=by
  show (w.heap.push _)[w.heap.size]? = _
  simp
 have hcp:=fun ty=>ndcopy_run (w.alloc (.cells (madeCells #[.int .i64 0,.int .i64 0,.int .i64 0,.int .i64 0,.int .i64 0] (l.length*5)) 77)) ty w.heap.size a cap l _ hgm (by rw [size_madeCells]) (h.out.alloc _)
 have Fin:Hid (NdRow w.heap.size ((w.alloc (.cells (madeCells #[.int .i64 0,.int .i64 0,.int .i64 0,.int .i64 0,.int .i64 0] (l.length*5)) 77)).setRow w.heap.size (ndcells l).toArray) (.slice (some ⟨w.heap.size,0,none⟩) l.length l.length) l∧Below w.heap.size w ((w.alloc (.cells (madeCells #[.int .i64 0,.int .i64 0,.int .i64 0,.int .i64 0,.int .i64 0] (l.length*5)) 77)).setRow w.heap.size (ndcells l).toArray)):=by
  refine ⟨⟨ndcells_length l,.inr ⟨w.heap.size,l.length,(ndcells l).toArray,rfl,nlr,setRow_heap _ _ _ _ _ _ hgm,nlr,by unfold maxLen;omega,by simp [ndcells_length],?_⟩⟩,?_⟩
  ·simp [← ndcells_length]
  ·have b:Below w.heap.size w (w.alloc (.cells (madeCells #[.int .i64 0,.int .i64 0,.int .i64 0,.int .i64 0,.int .i64 0] (l.length*5)) 77)):=(Below.refl _ _).alloc nlr _
   exact b.trans ⟨rfl,rfl,rfl,by simp [World.setRow],fun k hk=>setRow_other _ _ k _ (by omega)⟩
 clear hgm
 obtain ⟨len,hlen⟩:∃ n,l.length=n:=⟨_,rfl⟩
 rw [hlen] at hT hcp Fin ⊢
 clear hlen
 have hmk:∀ wx,(Instr.makeSlice 41 (.int .i64 (len:Int)) (.int .i64 (len:Int))).run Tryz.prog wx = .ok (.slice (some ⟨wx.heap.size,0,none⟩) len len) (wx.alloc (.cells (madeCells #[.int .i64 0,.int .i64 0,.int .i64 0,.int .i64 0,.int .i64 0] (len*5)) 77)):=by
  intro wx
  have:=run_make (P:=Tryz.prog) wx 41 77 i0 (.agg #[.int .i64 0,.int .i64 0,.int .i64 0,.int .i64 0,.int .i64 0]) Tryz.underlying41 hi hz0 .i64 .i64 len len (by omega) (by omega) (by rw [hz2];omega) (by omega)
  rw [this,hz1];simp [Value.cells]
 clear hi hz0 hz1 hz2
 generalize (w.alloc (.cells (madeCells #[.int .i64 0,.int .i64 0,.int .i64 0,.int .i64 0,.int .i64 0] (len*5)) 77)).setRow w.heap.size (ndcells l).toArray=W2 at hcp Fin
 go_enter Tryz.func100,Tryz.ntmps100
 go_wp2
 go_ret
 exact ⟨_,rfl,Fin.out⟩
theorem srcopy_none (w:World) (ty:TypeId) (d s:Option Addr) (dc sc:Nat) :
 (Builtin.copy_ #[45,45] ty #[.slice d 0 dc,.slice s 0 sc]).run Tryz.prog w = .ok (goInt 0) w:=by
 obtain ⟨i0,hi0,hz0,hz1,hz2⟩:=info_parts srInfo
 have hl:∀ (x:Addr),(loadCells x 0).run Tryz.prog w = .ok #[] w:=fun x=>by simpa using run_loadCells_list (P:=Tryz.prog) w x [] (by simp)
 cases d<;>cases s<;>simp [Builtin.copy_,run_underlying Tryz.underlying45,Builtin.lenOf,Builtin.firstCells,sizeOf,typeInfo,hi0,storeCells,hl]
theorem srcopy_run (w:World) (ty:TypeId) (g:Nat) (a:Option Addr) (sCap:Nat) (l:List Sr) (cur:Array Value)
 (hg:w.heap[g]? = some (.cells cur 143 (0,0))) (hc:cur.size=l.length*3) (h:SrsAt w a l) :
 (Builtin.copy_ #[45,45] ty #[.slice (some ⟨g,0,none⟩) l.length l.length,.slice a l.length sCap]).run Tryz.prog w =
  .ok (.int .i64 (l.length:Int)) (w.setRow g (srcells l).toArray):=by
 obtain ⟨i0,hi0,hz0,hz1,hz2⟩:=info_parts srInfo
 cases l with
 |nil =>
  have e:w.setRow g (srcells []).toArray=w:=by
   obtain rfl:cur=#[]:=by simpa using hc
   exact setRow_self w g _ _ _ hg
  rw [e]
  exact srcopy_none w ty _ _ _ _
 |cons x xs =>
  obtain ⟨b,off,ha,_⟩:=h 0 (by simp)
  subst ha
  have hsrc:∀ j v,(srcells (x :: xs))[j]? = some v→w.cell? ((⟨b,off,none⟩:Addr).add j)=some v:=by
   intro j u hj
   have hj':j<(x :: xs).length*3:=by
    have:=(List.getElem?_eq_some_iff.1 hj).1
    rwa [srcells_length] at this
   obtain ⟨k,i,rfl,hi⟩:∃ k i,j=k*3+i∧i<3:=⟨j/3,j%3,by omega,Nat.mod_lt _ (by omega)⟩
   have hk:k<(x :: xs).length:=by omega
   obtain ⟨b',off',e,_,c0,c1,c2⟩:=h k hk
   cases e
   obtain ⟨e0,e1,e2⟩:=srcells_get (x :: xs) k hk
   rw [show (⟨b,off,none⟩:Addr).add (k*3+i)=⟨b,off+k*3+i,none⟩ by by_cases h0:k*3+i=0<;>simp [Addr.add,h0,Nat.add_assoc];omega]
   match i,hi with
   |0,_=>rw [Nat.add_zero] at hj;rw [e0] at hj;rw [Nat.add_zero,c0];exact hj
   |1,_=>rw [e1] at hj;rw [c1];exact hj
   |2,_=>rw [e2] at hj;rw [c2];exact hj
  generalize hL:x :: xs=L at *
  have hl:=run_loadCells_list (P:=Tryz.prog) w ⟨b,off,none⟩ (srcells L) hsrc
  have hst:=run_storeCells_at Tryz.prog g 0 143 (srcells L) 0 cur w hg (by simp [srcells_length,hc]) (srcells_one L)
  have e1:(cur.toList.take 0++srcells L++cur.toList.drop (0+(srcells L).length))=srcells L:=by
   rw [List.take_zero,List.nil_append,Nat.zero_add,srcells_length,← hc,← Array.length_toList,List.drop_length,List.append_nil]
  rw [Nat.add_zero,e1] at hst
  have hm:Nat.min L.length L.length=L.length:=Nat.min_self _
  rw [srcells_length] at hl
  simp [Builtin.copy_,run_underlying Tryz.underlying45,Builtin.lenOf,Builtin.firstCells,sizeOf,typeInfo,hi0,hz1,hm,hl,hst]
  rfl
theorem implCopySr (a:Option Addr) (cap:Nat) (l:List Sr) (w:World) (hT:l.length≤1048576) (h:Hid (SrsAt w a l)) :
 Calls Tryz.prog 103 #[.slice a l.length cap] w fun e w'=>∃ g,e = .returned (.slice (some ⟨g,0,none⟩) l.length l.length)∧SrRow w.heap.size w' (.slice (some ⟨g,0,none⟩) l.length l.length) l∧Below w.heap.size w w':=by
 obtain ⟨i0,hi,hz0,hz1,hz2⟩:=info_parts srInfo
 have hgm:(w.alloc (.cells (madeCells #[.int .i64 0,.int .i64 0,.int .i64 0] (l.length*3)) 143)).heap[w.heap.size]? = some (.cells (madeCells #[.int .i64 0,.int .i64 0,.int .i64 0] (l.length*3)) 143 (0,0)):=by
  show (w.heap.push _)[w.heap.size]? = _
  simp
 have hcp:=fun ty=>srcopy_run (w.alloc (.cells (madeCells #[.int .i64 0,.int .i64 0,.int .i64 0] (l.length*3)) 143)) ty w.heap.size a cap l _ hgm (by rw [size_madeCells]) (h.out.alloc _)
 have Fin:Hid (SrRow w.heap.size ((w.alloc (.cells (madeCells #[.int .i64 0,.int .i64 0,.int .i64 0] (l.length*3)) 143)).setRow w.heap.size (srcells l).toArray) (.slice (some ⟨w.heap.size,0,none⟩) l.length l.length) l∧Below w.heap.size w ((w.alloc (.cells (madeCells #[.int .i64 0,.int .i64 0,.int .i64 0] (l.length*3)) 143)).setRow w.heap.size (srcells l).toArray)):=by
  refine ⟨⟨srcells_length l,.inr ⟨w.heap.size,l.length,(srcells l).toArray,rfl,nlr,setRow_heap _ _ _ _ _ _ hgm,nlr,by unfold maxLen;omega,by simp [srcells_length],?_⟩⟩,?_⟩
  ·simp [← srcells_length]
  ·have b:Below w.heap.size w (w.alloc (.cells (madeCells #[.int .i64 0,.int .i64 0,.int .i64 0] (l.length*3)) 143)):=(Below.refl _ _).alloc nlr _
   exact b.trans ⟨rfl,rfl,rfl,by simp [World.setRow],fun k hk=>setRow_other _ _ k _ (by omega)⟩
 clear hgm
 obtain ⟨len,hlen⟩:∃ n,l.length=n:=⟨_,rfl⟩
 rw [hlen] at hT hcp Fin ⊢
 clear hlen
 have hmk:∀ wx,(Instr.makeSlice 45 (.int .i64 (len:Int)) (.int .i64 (len:Int))).run Tryz.prog wx = .ok (.slice (some ⟨wx.heap.size,0,none⟩) len len) (wx.alloc (.cells (madeCells #[.int .i64 0,.int .i64 0,.int .i64 0] (len*3)) 143)):=by
  intro wx
  have:=run_make (P:=Tryz.prog) wx 45 143 i0 (.agg #[.int .i64 0,.int .i64 0,.int .i64 0]) Tryz.underlying45 hi hz0 .i64 .i64 len len (by omega) (by omega) (by rw [hz2];omega) (by omega)
  rw [this,hz1];simp [Value.cells]
 clear hi hz0 hz1 hz2
 generalize (w.alloc (.cells (madeCells #[.int .i64 0,.int .i64 0,.int .i64 0] (len*3)) 143)).setRow w.heap.size (srcells l).toArray=W2 at hcp Fin
 go_enter Tryz.func103,Tryz.ntmps103
 go_wp2
 go_ret
 exact ⟨_,rfl,Fin.out⟩
theorem implCopied (r:Rw) (a:Option Addr) (c:Nat) (w:World) (hB:r.big≤1048576) (h:Hid (IzAt w a r.lists)) :
 Calls Tryz.prog 102 #[r.val a c] w fun e w'=>(∃ v vs,e = .returned (.agg #[.int .i64 r.most,v])∧IzG (w.heap.size+2) v vs r.lists w')∧Bel w w' :=
 (implCpyRw r a c w hB h).mono fun _ _ hh=>by
  obtain ⟨⟨v,vs,e,hG,_⟩,hb⟩:=hh
  exact ⟨⟨v,vs,e,hG⟩,hb⟩
theorem implOwnGate (g:Gt) (x:Ga) (w:World) (hB:g.big≤1048576) (hG:Hid (GtV w x g)) :
 Calls Tryz.prog 42 #[g.val x] w fun e w'=>(∃ x' f vs rs,e = .returned (g.val x')∧GtO w.heap.size w' x' vs rs g∧GtW w' x' f g∧f.In (w.heap.size+2) w'.heap.size∧f.Apart)∧Below w.heap.size w w':=by
 obtain ⟨z1,z2,z3,z4,z5,z6,z7⟩:=Gt.small hB
 have A1:Hid (∀ W,GtV W x g→Calls Tryz.prog 98 #[.slice x.a1 g.routes.length x.c1] W fun e w'=>∃ p c,e = .returned (.slice p g.routes.length c)∧RtRow W.heap.size w' (.slice p g.routes.length c) g.routes∧Below W.heap.size W w'):=fun W h=>(implCopyRt x.a1 x.c1 g.routes W z1 h.routes.spot').mono fun e w' ⟨k,h1,h2⟩=>⟨_,_,h1,h2⟩
 have A2:Hid (∀ W,GtV W x g→Calls Tryz.prog 99 #[.slice x.a2 g.rules.length x.c2] W fun e w'=>∃ p c,e = .returned (.slice p g.rules.length c)∧RuRow W.heap.size w' (.slice p g.rules.length c) g.rules∧Below W.heap.size W w'):=fun W h=>(implCopyRu x.a2 x.c2 g.rules W z2 h.rules.spot').mono fun e w' ⟨k,h1,h2⟩=>⟨_,_,h1,h2⟩
 have A3:Hid (∀ W,GtV W x g→Calls Tryz.prog 100 #[.slice x.a3 g.tree.length x.c3] W fun e w'=>∃ p c,e = .returned (.slice p g.tree.length c)∧NdRow W.heap.size w' (.slice p g.tree.length c) g.tree∧Below W.heap.size W w'):=fun W h=>(implCopyNd x.a3 x.c3 g.tree W z3 h.tree.spot').mono fun e w' ⟨k,h1,h2⟩=>⟨_,_,h1,h2⟩
 have A4:Hid (∀ W,GtV W x g→Calls Tryz.prog 101 #[.slice x.a4 g.leaves.length x.c4] W fun e w'=>∃ p c,e = .returned (.slice p g.leaves.length c)∧IRow W.heap.size w' (.slice p g.leaves.length c) g.leaves∧Below W.heap.size W w'):=fun W h=>(implCopyN x.a4 x.c4 g.leaves W h.leaves.spot' z4).mono fun e w' hh=>by
  obtain ⟨v,h1,h2,h3⟩:=hh
  obtain ⟨p,c,rfl⟩:=h2.shape
  exact ⟨p,c,h1,h2,h3⟩
 have A5:Hid (∀ W,GtV W x g→Calls Tryz.prog 102 #[.agg #[.int .i64 g.rows.most,.slice x.a5 g.rows.lists.length x.c5]] W fun e w'=>∃ p c vs,e = .returned (.agg #[.int .i64 g.rows.most,.slice p g.rows.lists.length c])∧IzG W.heap.size (.slice p g.rows.lists.length c) vs g.rows.lists w'∧Below W.heap.size W w'):=fun W h=>(implCopied g.rows x.a5 x.c5 W z5 h.rows.spot).mono fun e w' ⟨⟨v,vs,h1,h2⟩,h3⟩=>by
  obtain ⟨p,c,rfl⟩:=h2.shape
  exact ⟨p,c,vs,h1,h2.mono (by omega),h3⟩
 have A6:Hid (∀ W,GtV W x g→Calls Tryz.prog 103 #[.slice x.a6 g.steers.length x.c6] W fun e w'=>∃ p c,e = .returned (.slice p g.steers.length c)∧SrRow W.heap.size w' (.slice p g.steers.length c) g.steers∧Below W.heap.size W w'):=fun W h=>(implCopySr x.a6 x.c6 g.steers W z6 h.steers.spot').mono fun e w' ⟨k,h1,h2⟩=>⟨_,_,h1,h2⟩
 have A7:Hid (∀ W,GtV W x g→Calls Tryz.prog 104 #[.agg #[.int .i64 g.fair.now,.slice x.a7 g.fair.flows.length x.c7]] W fun e w'=>∃ p c rs,e = .returned (.agg #[.int .i64 g.fair.now,.slice p g.fair.flows.length c])∧FwG W.heap.size (.slice p g.fair.flows.length c) rs g.fair.flows w'∧Below W.heap.size W w'):=fun W h=>(implOwnFair g.fair x.a7 x.c7 W z7 h.fair.spot).mono fun e w' ⟨⟨v,rs,h1,h2⟩,h3⟩=>by
  obtain ⟨p,c,rfl⟩:=h2.shape
  exact ⟨p,c,rs,h1,h2.mono (by omega),h3⟩
 have K:Hid (∀ W,Below w.heap.size w W→GtV W x g):=fun W q=>hG.out.below q
 unfold Gt.val Gt.cells
 have mkO:Hid (∀ (W:World) (p1:Option Addr) (q1:Nat) (p2:Option Addr) (q2:Nat) (p3:Option Addr) (q3:Nat) (p4:Option Addr) (q4:Nat) (p5:Option Addr) (q5:Nat) (p6:Option Addr) (q6:Nat) (p7:Option Addr) (q7:Nat) vs rs (b:Nat),RtRow b W (.slice p1 g.routes.length q1) g.routes→RuRow b W (.slice p2 g.rules.length q2) g.rules→NdRow b W (.slice p3 g.tree.length q3) g.tree→IRow b W (.slice p4 g.leaves.length q4) g.leaves→IzG b (.slice p5 g.rows.lists.length q5) vs g.rows.lists W→SrRow b W (.slice p6 g.steers.length q6) g.steers→FwG b (.slice p7 g.fair.flows.length q7) rs g.fair.flows W→(∀ i k,i<g.fair.flows.length→(fwrAt rs i).hd.ownBlock=some k→(Value.slice p4 g.leaves.length q4).ownBlock≠some k)→GtO b W ⟨p1,q1,p2,q2,p3,q3,p4,q4,p5,q5,p6,q6,p7,q7⟩ vs rs g):=fun W p1 q1 p2 q2 p3 q3 p4 q4 p5 q5 p6 q6 p7 q7 vs rs b r1 r2 r3 r4 r5 r6 r7 ap=>⟨r1,r2,r3,r4,r5,r6,r7,ap⟩
 clear hG hB z1 z2 z3 z4 z5 z6 z7
 obtain ⟨A,hA⟩:∃ A,A=w.heap.size:=⟨_,rfl⟩
 obtain ⟨W0,hW⟩:∃ W,W=(w.alloc (.cells (gc g.ln.kind g.ln.extra g.ln.least (.slice x.a1 g.routes.length x.c1) (.slice x.a2 g.rules.length x.c2) (.slice x.a3 g.tree.length x.c3) (.slice x.a4 g.leaves.length x.c4) g.rows.most (.slice x.a5 g.rows.lists.length x.c5) (.slice x.a6 g.steers.length x.c6) g.fair.now (.slice x.a7 g.fair.flows.length x.c7) g.next g.draw) 50)).alloc (.cells gz 50):=⟨_,rfl⟩
 have X0:Hid (Boxed W0 A (gc g.ln.kind g.ln.extra g.ln.least (.slice x.a1 g.routes.length x.c1) (.slice x.a2 g.rules.length x.c2) (.slice x.a3 g.tree.length x.c3) (.slice x.a4 g.leaves.length x.c4) g.rows.most (.slice x.a5 g.rows.lists.length x.c5) (.slice x.a6 g.steers.length x.c6) g.fair.now (.slice x.a7 g.fair.flows.length x.c7) g.next g.draw) 50∧Boxed W0 (A+1) gz 50∧Below w.heap.size w W0):=by
  rw [hW,hA]
  refine ⟨(Boxed.new w _ _).more _,?_,((Below.refl _ _).alloc nlr _).alloc (by simp) _⟩
  have:=Boxed.new (w.alloc (.cells (gc g.ln.kind g.ln.extra g.ln.least (.slice x.a1 g.routes.length x.c1) (.slice x.a2 g.rules.length x.c2) (.slice x.a3 g.tree.length x.c3) (.slice x.a4 g.leaves.length x.c4) g.rows.most (.slice x.a5 g.rows.lists.length x.c5) (.slice x.a6 g.steers.length x.c6) g.fair.now (.slice x.a7 g.fair.flows.length x.c7) g.next g.draw) 50)) gz 50
  simpa using this
 have HW:Hid (W0=_):=hW
 have HA:Hid (A=w.heap.size):=hA
 clear hW hA
 go_enter Tryz.func42,Tryz.ntmps42
 go_upto_region 1 with fail
 rw [← HW.out,← HA.out]
 clear HW
 have c3:W0.cell? ⟨A,3,none⟩=some (.slice x.a1 g.routes.length x.c1):=X0.out.1.cell 3 rfl
 go_wp2_with fail
 refine (A1.out _ (K.out _ X0.out.2.2)).mono ?_
 rintro e w1 ⟨p1,q1,rfl,hr,q⟩
 have Y:Hid (Boxed w1 A (gc g.ln.kind g.ln.extra g.ln.least (.slice x.a1 g.routes.length x.c1) (.slice x.a2 g.rules.length x.c2) (.slice x.a3 g.tree.length x.c3) (.slice x.a4 g.leaves.length x.c4) g.rows.most (.slice x.a5 g.rows.lists.length x.c5) (.slice x.a6 g.steers.length x.c6) g.fair.now (.slice x.a7 g.fair.flows.length x.c7) g.next g.draw) 50∧Boxed w1 (A+1) gz 50∧Below w.heap.size w w1):=⟨X0.out.1.below X0.out.1.under q,X0.out.2.1.below X0.out.2.1.under q,X0.out.2.2.trans (q.mono X0.out.2.2.size)⟩
 have d3:w1.cell? ⟨A,3,none⟩=some (.slice x.a1 g.routes.length x.c1):=Y.out.1.cell 3 rfl
 have f3:=Y.out.1.ice 3
 have hu1:A<w1.heap.size:=Y.out.1.under
 obtain ⟨W1,hV⟩:∃ V,(w1.setCell ⟨A,3,none⟩ (.slice p1 g.routes.length q1))=V:=⟨_,rfl⟩
 have oth:∀ k,A+2≤k→W1.heap[k]? = w1.heap[k]? := fun k hk=>by rw [← hV,Below.heap_setCell _ _ _ _ (show k≠A by omega)]
 have hsz:W1.heap.size=w1.heap.size:=by rw [← hV];simp [World.setCell]
 have X1:Hid (Boxed W1 A (gc g.ln.kind g.ln.extra g.ln.least (.slice p1 g.routes.length q1) (.slice x.a2 g.rules.length x.c2) (.slice x.a3 g.tree.length x.c3) (.slice x.a4 g.leaves.length x.c4) g.rows.most (.slice x.a5 g.rows.lists.length x.c5) (.slice x.a6 g.steers.length x.c6) g.fair.now (.slice x.a7 g.fair.flows.length x.c7) g.next g.draw) 50∧Boxed W1 (A+1) gz 50∧Below w.heap.size w W1):=by
  rw [← hV]
  exact ⟨by simpa using (Y.out.1.put 3 (.slice p1 g.routes.length q1)),(Y.out.2.1.far (by omega) _ _),(Y.out.2.2.setCell (by show w.heap.size≤A;rw [HA.out];omega) _)⟩
 have hb1:A+2≤W0.heap.size:=X0.out.2.1.under
 have hr':RtRow (A+2) w1 (.slice p1 g.routes.length q1) g.routes:=hr.mono hb1
 have R1:Hid (RtRow (A+2) W1 (.slice p1 g.routes.length q1) g.routes):=hr'.carry fun k hk hl=>oth k (hr'.lt k hk).1
 have F1:Hid (W0.heap.size≤W1.heap.size∧∀ k,A+2≤k→k<W0.heap.size→W1.heap[k]? = W0.heap[k]?):=⟨by rw [hsz];exact q.size,fun k k1 k2=>(oth k k1).trans (q.block k k2)⟩
 have hm:RtsW W0.heap.size w1.heap.size w1 (.slice p1 g.routes.length q1) g.routes:=RtsW.of_row hr
 have M1:Hid (RtsW W0.heap.size W1.heap.size W1 (.slice p1 g.routes.length q1) g.routes):=by
  have hm2:=hm.keep (show w1.heap.size≤W1.heap.size by rw [hsz];exact Nat.le_refl _) (fun k k1 k2=>oth k (by omega))
  rw [← hsz] at hm2
  exact hm2
 have HV:Hid ((w1.setCell ⟨A,3,none⟩ (.slice p1 g.routes.length q1))=W1):=hV
 have B1:Hid (A+2≤W0.heap.size):=hb1
 clear hr hr' hm oth q Y hsz hV
 go_upto_region 2 with fail
 rw [HV.out]
 clear HV X0 A1 c3 d3 f3 hu1 hb1
 have c4:W1.cell? ⟨A,4,none⟩=some (.slice x.a2 g.rules.length x.c2):=X1.out.1.cell 4 rfl
 go_wp2_with fail
 refine (A2.out _ (K.out _ X1.out.2.2)).mono ?_
 rintro e w2 ⟨p2,q2,rfl,hr,q⟩
 have Y:Hid (Boxed w2 A (gc g.ln.kind g.ln.extra g.ln.least (.slice p1 g.routes.length q1) (.slice x.a2 g.rules.length x.c2) (.slice x.a3 g.tree.length x.c3) (.slice x.a4 g.leaves.length x.c4) g.rows.most (.slice x.a5 g.rows.lists.length x.c5) (.slice x.a6 g.steers.length x.c6) g.fair.now (.slice x.a7 g.fair.flows.length x.c7) g.next g.draw) 50∧Boxed w2 (A+1) gz 50∧Below w.heap.size w w2):=⟨X1.out.1.below X1.out.1.under q,X1.out.2.1.below X1.out.2.1.under q,X1.out.2.2.trans (q.mono X1.out.2.2.size)⟩
 have d4:w2.cell? ⟨A,4,none⟩=some (.slice x.a2 g.rules.length x.c2):=Y.out.1.cell 4 rfl
 have f4:=Y.out.1.ice 4
 have hu2:A<w2.heap.size:=Y.out.1.under
 obtain ⟨W2,hV⟩:∃ V,(w2.setCell ⟨A,4,none⟩ (.slice p2 g.rules.length q2))=V:=⟨_,rfl⟩
 have oth:∀ k,A+2≤k→W2.heap[k]? = w2.heap[k]? := fun k hk=>by rw [← hV,Below.heap_setCell _ _ _ _ (show k≠A by omega)]
 have hsz:W2.heap.size=w2.heap.size:=by rw [← hV];simp [World.setCell]
 have X2:Hid (Boxed W2 A (gc g.ln.kind g.ln.extra g.ln.least (.slice p1 g.routes.length q1) (.slice p2 g.rules.length q2) (.slice x.a3 g.tree.length x.c3) (.slice x.a4 g.leaves.length x.c4) g.rows.most (.slice x.a5 g.rows.lists.length x.c5) (.slice x.a6 g.steers.length x.c6) g.fair.now (.slice x.a7 g.fair.flows.length x.c7) g.next g.draw) 50∧Boxed W2 (A+1) gz 50∧Below w.heap.size w W2):=by
  rw [← hV]
  exact ⟨by simpa using (Y.out.1.put 4 (.slice p2 g.rules.length q2)),(Y.out.2.1.far (by omega) _ _),(Y.out.2.2.setCell (by show w.heap.size≤A;rw [HA.out];omega) _)⟩
 have hb2:A+2≤W1.heap.size:=X1.out.2.1.under
 have hr':RuRow (A+2) w2 (.slice p2 g.rules.length q2) g.rules:=hr.mono hb2
 have R2:Hid (RuRow (A+2) W2 (.slice p2 g.rules.length q2) g.rules):=hr'.carry fun k hk hl=>oth k (hr'.lt k hk).1
 have F2:Hid (W1.heap.size≤W2.heap.size∧∀ k,A+2≤k→k<W1.heap.size→W2.heap[k]? = W1.heap[k]?):=⟨by rw [hsz];exact q.size,fun k k1 k2=>(oth k k1).trans (q.block k k2)⟩
 have hm:RusW W1.heap.size w2.heap.size w2 (.slice p2 g.rules.length q2) g.rules:=RusW.of_row hr
 have M2:Hid (RusW W1.heap.size W2.heap.size W2 (.slice p2 g.rules.length q2) g.rules):=by
  have hm2:=hm.keep (show w2.heap.size≤W2.heap.size by rw [hsz];exact Nat.le_refl _) (fun k k1 k2=>oth k (by omega))
  rw [← hsz] at hm2
  exact hm2
 have HV:Hid ((w2.setCell ⟨A,4,none⟩ (.slice p2 g.rules.length q2))=W2):=hV
 have B2:Hid (A+2≤W1.heap.size):=hb2
 clear hr hr' hm oth q Y hsz hV
 go_upto_region 3 with fail
 rw [HV.out]
 clear HV X1 A2 c4 d4 f4 hu2 hb2
 have c5:W2.cell? ⟨A,5,none⟩=some (.slice x.a3 g.tree.length x.c3):=X2.out.1.cell 5 rfl
 go_wp2_with fail
 refine (A3.out _ (K.out _ X2.out.2.2)).mono ?_
 rintro e w3 ⟨p3,q3,rfl,hr,q⟩
 have Y:Hid (Boxed w3 A (gc g.ln.kind g.ln.extra g.ln.least (.slice p1 g.routes.length q1) (.slice p2 g.rules.length q2) (.slice x.a3 g.tree.length x.c3) (.slice x.a4 g.leaves.length x.c4) g.rows.most (.slice x.a5 g.rows.lists.length x.c5) (.slice x.a6 g.steers.length x.c6) g.fair.now (.slice x.a7 g.fair.flows.length x.c7) g.next g.draw) 50∧Boxed w3 (A+1) gz 50∧Below w.heap.size w w3):=⟨X2.out.1.below X2.out.1.under q,X2.out.2.1.below X2.out.2.1.under q,X2.out.2.2.trans (q.mono X2.out.2.2.size)⟩
 have d5:w3.cell? ⟨A,5,none⟩=some (.slice x.a3 g.tree.length x.c3):=Y.out.1.cell 5 rfl
 have f5:=Y.out.1.ice 5
 have hu3:A<w3.heap.size:=Y.out.1.under
 obtain ⟨W3,hV⟩:∃ V,(w3.setCell ⟨A,5,none⟩ (.slice p3 g.tree.length q3))=V:=⟨_,rfl⟩
 have oth:∀ k,A+2≤k→W3.heap[k]? = w3.heap[k]? := fun k hk=>by rw [← hV,Below.heap_setCell _ _ _ _ (show k≠A by omega)]
 have hsz:W3.heap.size=w3.heap.size:=by rw [← hV];simp [World.setCell]
 have X3:Hid (Boxed W3 A (gc g.ln.kind g.ln.extra g.ln.least (.slice p1 g.routes.length q1) (.slice p2 g.rules.length q2) (.slice p3 g.tree.length q3) (.slice x.a4 g.leaves.length x.c4) g.rows.most (.slice x.a5 g.rows.lists.length x.c5) (.slice x.a6 g.steers.length x.c6) g.fair.now (.slice x.a7 g.fair.flows.length x.c7) g.next g.draw) 50∧Boxed W3 (A+1) gz 50∧Below w.heap.size w W3):=by
  rw [← hV]
  exact ⟨by simpa using (Y.out.1.put 5 (.slice p3 g.tree.length q3)),(Y.out.2.1.far (by omega) _ _),(Y.out.2.2.setCell (by show w.heap.size≤A;rw [HA.out];omega) _)⟩
 have hb3:A+2≤W2.heap.size:=X2.out.2.1.under
 have hr':NdRow (A+2) w3 (.slice p3 g.tree.length q3) g.tree:=hr.mono hb3
 have R3:Hid (NdRow (A+2) W3 (.slice p3 g.tree.length q3) g.tree):=hr'.carry fun k hk hl=>oth k (hr'.lt k hk).1
 have F3:Hid (W2.heap.size≤W3.heap.size∧∀ k,A+2≤k→k<W2.heap.size→W3.heap[k]? = W2.heap[k]?):=⟨by rw [hsz];exact q.size,fun k k1 k2=>(oth k k1).trans (q.block k k2)⟩
 have hm:NdsW W2.heap.size w3.heap.size w3 (.slice p3 g.tree.length q3) g.tree:=NdsW.of_row hr
 have M3:Hid (NdsW W2.heap.size W3.heap.size W3 (.slice p3 g.tree.length q3) g.tree):=by
  have hm2:=hm.keep (show w3.heap.size≤W3.heap.size by rw [hsz];exact Nat.le_refl _) (fun k k1 k2=>oth k (by omega))
  rw [← hsz] at hm2
  exact hm2
 have HV:Hid ((w3.setCell ⟨A,5,none⟩ (.slice p3 g.tree.length q3))=W3):=hV
 have B3:Hid (A+2≤W2.heap.size):=hb3
 clear hr hr' hm oth q Y hsz hV
 go_upto_region 4 with fail
 rw [HV.out]
 clear HV X2 A3 c5 d5 f5 hu3 hb3
 have c6:W3.cell? ⟨A,6,none⟩=some (.slice x.a4 g.leaves.length x.c4):=X3.out.1.cell 6 rfl
 go_wp2_with fail
 refine (A4.out _ (K.out _ X3.out.2.2)).mono ?_
 rintro e w4 ⟨p4,q4,rfl,hr,q⟩
 have Y:Hid (Boxed w4 A (gc g.ln.kind g.ln.extra g.ln.least (.slice p1 g.routes.length q1) (.slice p2 g.rules.length q2) (.slice p3 g.tree.length q3) (.slice x.a4 g.leaves.length x.c4) g.rows.most (.slice x.a5 g.rows.lists.length x.c5) (.slice x.a6 g.steers.length x.c6) g.fair.now (.slice x.a7 g.fair.flows.length x.c7) g.next g.draw) 50∧Boxed w4 (A+1) gz 50∧Below w.heap.size w w4):=⟨X3.out.1.below X3.out.1.under q,X3.out.2.1.below X3.out.2.1.under q,X3.out.2.2.trans (q.mono X3.out.2.2.size)⟩
 have d6:w4.cell? ⟨A,6,none⟩=some (.slice x.a4 g.leaves.length x.c4):=Y.out.1.cell 6 rfl
 have f6:=Y.out.1.ice 6
 have hu4:A<w4.heap.size:=Y.out.1.under
 obtain ⟨W4,hV⟩:∃ V,(w4.setCell ⟨A,6,none⟩ (.slice p4 g.leaves.length q4))=V:=⟨_,rfl⟩
 have oth:∀ k,A+2≤k→W4.heap[k]? = w4.heap[k]? := fun k hk=>by rw [← hV,Below.heap_setCell _ _ _ _ (show k≠A by omega)]
 have hsz:W4.heap.size=w4.heap.size:=by rw [← hV];simp [World.setCell]
 have X4:Hid (Boxed W4 A (gc g.ln.kind g.ln.extra g.ln.least (.slice p1 g.routes.length q1) (.slice p2 g.rules.length q2) (.slice p3 g.tree.length q3) (.slice p4 g.leaves.length q4) g.rows.most (.slice x.a5 g.rows.lists.length x.c5) (.slice x.a6 g.steers.length x.c6) g.fair.now (.slice x.a7 g.fair.flows.length x.c7) g.next g.draw) 50∧Boxed W4 (A+1) gz 50∧Below w.heap.size w W4):=by
  rw [← hV]
  exact ⟨by simpa using (Y.out.1.put 6 (.slice p4 g.leaves.length q4)),(Y.out.2.1.far (by omega) _ _),(Y.out.2.2.setCell (by show w.heap.size≤A;rw [HA.out];omega) _)⟩
 have hb4:A+2≤W3.heap.size:=X3.out.2.1.under
 have hr':IRow (A+2) w4 (.slice p4 g.leaves.length q4) g.leaves:=hr.mono hb4
 have R4:Hid (IRow (A+2) W4 (.slice p4 g.leaves.length q4) g.leaves):=hr'.carry (fun k hk _=>oth k hk)
 have F4:Hid (W3.heap.size≤W4.heap.size∧∀ k,A+2≤k→k<W3.heap.size→W4.heap[k]? = W3.heap[k]?):=⟨by rw [hsz];exact q.size,fun k k1 k2=>(oth k k1).trans (q.block k k2)⟩
 have hm:IntsW W3.heap.size w4.heap.size w4 (.slice p4 g.leaves.length q4) g.leaves:=IntsW.of_row hr
 have M4:Hid (IntsW W3.heap.size W4.heap.size W4 (.slice p4 g.leaves.length q4) g.leaves):=by
  have hm2:=hm.keep (show w4.heap.size≤W4.heap.size by rw [hsz];exact Nat.le_refl _) (fun k k1 k2=>oth k (by omega))
  rw [← hsz] at hm2
  exact hm2
 have L4:Hid (∀ k,(Value.slice p4 g.leaves.length q4).ownBlock=some k→k<W4.heap.size):=fun k hk=>by
  rcases hr.2 with ⟨e,_⟩|⟨g',cap',cur',e,_,hg,_⟩
  ·rw [e] at hk;cases hk
  ·rw [e] at hk;cases hk;rw [hsz];exact (Array.getElem?_eq_some_iff.1 hg).1
 have HV:Hid ((w4.setCell ⟨A,6,none⟩ (.slice p4 g.leaves.length q4))=W4):=hV
 have B4:Hid (A+2≤W3.heap.size):=hb4
 clear hr hr' hm oth q Y hsz hV
 go_upto_region 5 with fail
 rw [HV.out]
 clear HV X3 A4 c6 d6 f6 hu4 hb4
 have c7:W4.cell? ⟨A,7,none⟩=some (.int .i64 g.rows.most):=X4.out.1.cell 7 rfl
 have c8:W4.cell? ⟨A,8,none⟩=some (.slice x.a5 g.rows.lists.length x.c5):=X4.out.1.cell 8 rfl
 go_wp2_with fail
 refine (A5.out _ (K.out _ X4.out.2.2)).mono ?_
 rintro e w5 ⟨p5,q5,vs,rfl,hr,q⟩
 have Y:Hid (Boxed w5 A (gc g.ln.kind g.ln.extra g.ln.least (.slice p1 g.routes.length q1) (.slice p2 g.rules.length q2) (.slice p3 g.tree.length q3) (.slice p4 g.leaves.length q4) g.rows.most (.slice x.a5 g.rows.lists.length x.c5) (.slice x.a6 g.steers.length x.c6) g.fair.now (.slice x.a7 g.fair.flows.length x.c7) g.next g.draw) 50∧Boxed w5 (A+1) gz 50∧Below w.heap.size w w5):=⟨X4.out.1.below X4.out.1.under q,X4.out.2.1.below X4.out.2.1.under q,X4.out.2.2.trans (q.mono X4.out.2.2.size)⟩
 have d7:w5.cell? ⟨A,7,none⟩=some (.int .i64 g.rows.most):=Y.out.1.cell 7 rfl
 have f7:=Y.out.1.ice 7
 have d8:w5.cell? ⟨A,8,none⟩=some (.slice x.a5 g.rows.lists.length x.c5):=Y.out.1.cell 8 rfl
 have f8:=Y.out.1.ice 8
 have hu5:A<w5.heap.size:=Y.out.1.under
 obtain ⟨W5,hV⟩:∃ V,((w5.setCell ⟨A,7,none⟩ (.int .i64 g.rows.most)).setCell ⟨A,8,none⟩ (.slice p5 g.rows.lists.length q5))=V:=⟨_,rfl⟩
 have oth:∀ k,A+2≤k→W5.heap[k]? = w5.heap[k]? := fun k hk=>by rw [← hV,Below.heap_setCell _ _ _ _ (show k≠A by omega),Below.heap_setCell _ _ _ _ (show k≠A by omega)]
 have hsz:W5.heap.size=w5.heap.size:=by rw [← hV];simp [World.setCell]
 have X5:Hid (Boxed W5 A (gc g.ln.kind g.ln.extra g.ln.least (.slice p1 g.routes.length q1) (.slice p2 g.rules.length q2) (.slice p3 g.tree.length q3) (.slice p4 g.leaves.length q4) g.rows.most (.slice p5 g.rows.lists.length q5) (.slice x.a6 g.steers.length x.c6) g.fair.now (.slice x.a7 g.fair.flows.length x.c7) g.next g.draw) 50∧Boxed W5 (A+1) gz 50∧Below w.heap.size w W5):=by
  rw [← hV]
  exact ⟨by simpa using ((Y.out.1.put 7 (.int .i64 g.rows.most)).put 8 (.slice p5 g.rows.lists.length q5)),((Y.out.2.1.far (by omega) _ _).far (by omega) _ _),((Y.out.2.2.setCell (by show w.heap.size≤A;rw [HA.out];omega) _).setCell (by show w.heap.size≤A;rw [HA.out];omega) _)⟩
 have hb5:A+2≤W4.heap.size:=X4.out.2.1.under
 have hr':IzG (A+2) (.slice p5 g.rows.lists.length q5) vs g.rows.lists w5:=hr.mono hb5
 have R5:Hid (IzG (A+2) (.slice p5 g.rows.lists.length q5) vs g.rows.lists W5):=hr'.other (fun k hk _=>oth k hk)
 have F5:Hid (W4.heap.size≤W5.heap.size∧∀ k,A+2≤k→k<W4.heap.size→W5.heap[k]? = W4.heap[k]?):=⟨by rw [hsz];exact q.size,fun k k1 k2=>(oth k k1).trans (q.block k k2)⟩
 have hm:RwIn W4.heap.size w5.heap.size w5 (g.rows.val p5 q5) g.rows:=⟨p5,q5,rfl,vs,hr.done⟩
 have M5:Hid (RwIn W4.heap.size W5.heap.size W5 (g.rows.val p5 q5) g.rows):=by
  have hm2:=hm.keep (show w5.heap.size≤W5.heap.size by rw [hsz];exact Nat.le_refl _) (fun k k1 k2=>oth k (by omega))
  rw [← hsz] at hm2
  exact hm2
 have HV:Hid (((w5.setCell ⟨A,7,none⟩ (.int .i64 g.rows.most)).setCell ⟨A,8,none⟩ (.slice p5 g.rows.lists.length q5))=W5):=hV
 have B5:Hid (A+2≤W4.heap.size):=hb5
 clear hr hr' hm oth q Y hsz hV
 go_upto_region 6 with fail
 rw [HV.out]
 clear HV X4 A5 c7 d7 f7 c8 d8 f8 hu5 hb5
 have c9:W5.cell? ⟨A,9,none⟩=some (.slice x.a6 g.steers.length x.c6):=X5.out.1.cell 9 rfl
 go_wp2_with fail
 refine (A6.out _ (K.out _ X5.out.2.2)).mono ?_
 rintro e w6 ⟨p6,q6,rfl,hr,q⟩
 have Y:Hid (Boxed w6 A (gc g.ln.kind g.ln.extra g.ln.least (.slice p1 g.routes.length q1) (.slice p2 g.rules.length q2) (.slice p3 g.tree.length q3) (.slice p4 g.leaves.length q4) g.rows.most (.slice p5 g.rows.lists.length q5) (.slice x.a6 g.steers.length x.c6) g.fair.now (.slice x.a7 g.fair.flows.length x.c7) g.next g.draw) 50∧Boxed w6 (A+1) gz 50∧Below w.heap.size w w6):=⟨X5.out.1.below X5.out.1.under q,X5.out.2.1.below X5.out.2.1.under q,X5.out.2.2.trans (q.mono X5.out.2.2.size)⟩
 have d9:w6.cell? ⟨A,9,none⟩=some (.slice x.a6 g.steers.length x.c6):=Y.out.1.cell 9 rfl
 have f9:=Y.out.1.ice 9
 have hu6:A<w6.heap.size:=Y.out.1.under
 obtain ⟨W6,hV⟩:∃ V,(w6.setCell ⟨A,9,none⟩ (.slice p6 g.steers.length q6))=V:=⟨_,rfl⟩
 have oth:∀ k,A+2≤k→W6.heap[k]? = w6.heap[k]? := fun k hk=>by rw [← hV,Below.heap_setCell _ _ _ _ (show k≠A by omega)]
 have hsz:W6.heap.size=w6.heap.size:=by rw [← hV];simp [World.setCell]
 have X6:Hid (Boxed W6 A (gc g.ln.kind g.ln.extra g.ln.least (.slice p1 g.routes.length q1) (.slice p2 g.rules.length q2) (.slice p3 g.tree.length q3) (.slice p4 g.leaves.length q4) g.rows.most (.slice p5 g.rows.lists.length q5) (.slice p6 g.steers.length q6) g.fair.now (.slice x.a7 g.fair.flows.length x.c7) g.next g.draw) 50∧Boxed W6 (A+1) gz 50∧Below w.heap.size w W6):=by
  rw [← hV]
  exact ⟨by simpa using (Y.out.1.put 9 (.slice p6 g.steers.length q6)),(Y.out.2.1.far (by omega) _ _),(Y.out.2.2.setCell (by show w.heap.size≤A;rw [HA.out];omega) _)⟩
 have hb6:A+2≤W5.heap.size:=X5.out.2.1.under
 have hr':SrRow (A+2) w6 (.slice p6 g.steers.length q6) g.steers:=hr.mono hb6
 have R6:Hid (SrRow (A+2) W6 (.slice p6 g.steers.length q6) g.steers):=hr'.carry fun k hk hl=>oth k (hr'.lt k hk).1
 have F6:Hid (W5.heap.size≤W6.heap.size∧∀ k,A+2≤k→k<W5.heap.size→W6.heap[k]? = W5.heap[k]?):=⟨by rw [hsz];exact q.size,fun k k1 k2=>(oth k k1).trans (q.block k k2)⟩
 have hm:SrsW W5.heap.size w6.heap.size w6 (.slice p6 g.steers.length q6) g.steers:=SrsW.of_row hr
 have M6:Hid (SrsW W5.heap.size W6.heap.size W6 (.slice p6 g.steers.length q6) g.steers):=by
  have hm2:=hm.keep (show w6.heap.size≤W6.heap.size by rw [hsz];exact Nat.le_refl _) (fun k k1 k2=>oth k (by omega))
  rw [← hsz] at hm2
  exact hm2
 have HV:Hid ((w6.setCell ⟨A,9,none⟩ (.slice p6 g.steers.length q6))=W6):=hV
 have B6:Hid (A+2≤W5.heap.size):=hb6
 clear hr hr' hm oth q Y hsz hV
 go_upto_region 7 with fail
 rw [HV.out]
 clear HV X5 A6 c9 d9 f9 hu6 hb6
 have c10:W6.cell? ⟨A,10,none⟩=some (.int .i64 g.fair.now):=X6.out.1.cell 10 rfl
 have c11:W6.cell? ⟨A,11,none⟩=some (.slice x.a7 g.fair.flows.length x.c7):=X6.out.1.cell 11 rfl
 go_wp2_with fail
 refine (A7.out _ (K.out _ X6.out.2.2)).mono ?_
 rintro e w7 ⟨p7,q7,rs,rfl,hr,q⟩
 have Y:Hid (Boxed w7 A (gc g.ln.kind g.ln.extra g.ln.least (.slice p1 g.routes.length q1) (.slice p2 g.rules.length q2) (.slice p3 g.tree.length q3) (.slice p4 g.leaves.length q4) g.rows.most (.slice p5 g.rows.lists.length q5) (.slice p6 g.steers.length q6) g.fair.now (.slice x.a7 g.fair.flows.length x.c7) g.next g.draw) 50∧Boxed w7 (A+1) gz 50∧Below w.heap.size w w7):=⟨X6.out.1.below X6.out.1.under q,X6.out.2.1.below X6.out.2.1.under q,X6.out.2.2.trans (q.mono X6.out.2.2.size)⟩
 have d10:w7.cell? ⟨A,10,none⟩=some (.int .i64 g.fair.now):=Y.out.1.cell 10 rfl
 have f10:=Y.out.1.ice 10
 have d11:w7.cell? ⟨A,11,none⟩=some (.slice x.a7 g.fair.flows.length x.c7):=Y.out.1.cell 11 rfl
 have f11:=Y.out.1.ice 11
 have hu7:A<w7.heap.size:=Y.out.1.under
 obtain ⟨W7,hV⟩:∃ V,((w7.setCell ⟨A,10,none⟩ (.int .i64 g.fair.now)).setCell ⟨A,11,none⟩ (.slice p7 g.fair.flows.length q7))=V:=⟨_,rfl⟩
 have oth:∀ k,A+2≤k→W7.heap[k]? = w7.heap[k]? := fun k hk=>by rw [← hV,Below.heap_setCell _ _ _ _ (show k≠A by omega),Below.heap_setCell _ _ _ _ (show k≠A by omega)]
 have hsz:W7.heap.size=w7.heap.size:=by rw [← hV];simp [World.setCell]
 have X7:Hid (Boxed W7 A (gc g.ln.kind g.ln.extra g.ln.least (.slice p1 g.routes.length q1) (.slice p2 g.rules.length q2) (.slice p3 g.tree.length q3) (.slice p4 g.leaves.length q4) g.rows.most (.slice p5 g.rows.lists.length q5) (.slice p6 g.steers.length q6) g.fair.now (.slice p7 g.fair.flows.length q7) g.next g.draw) 50∧Boxed W7 (A+1) gz 50∧Below w.heap.size w W7):=by
  rw [← hV]
  exact ⟨by simpa using ((Y.out.1.put 10 (.int .i64 g.fair.now)).put 11 (.slice p7 g.fair.flows.length q7)),((Y.out.2.1.far (by omega) _ _).far (by omega) _ _),((Y.out.2.2.setCell (by show w.heap.size≤A;rw [HA.out];omega) _).setCell (by show w.heap.size≤A;rw [HA.out];omega) _)⟩
 have hb7:A+2≤W6.heap.size:=X6.out.2.1.under
 have hr':FwG (A+2) (.slice p7 g.fair.flows.length q7) rs g.fair.flows w7:=hr.mono hb7
 have R7:Hid (FwG (A+2) (.slice p7 g.fair.flows.length q7) rs g.fair.flows W7):=hr'.other (fun k hk _=>oth k hk)
 have F7:Hid (W6.heap.size≤W7.heap.size∧∀ k,A+2≤k→k<W6.heap.size→W7.heap[k]? = W6.heap[k]?):=⟨by rw [hsz];exact q.size,fun k k1 k2=>(oth k k1).trans (q.block k k2)⟩
 have hm:FsIn W6.heap.size w7.heap.size w7 (g.fair.val p7 q7) g.fair:=⟨p7,q7,rfl,rs,hr.done⟩
 have M7:Hid (FsIn W6.heap.size W7.heap.size W7 (g.fair.val p7 q7) g.fair):=by
  have hm2:=hm.keep (show w7.heap.size≤W7.heap.size by rw [hsz];exact Nat.le_refl _) (fun k k1 k2=>oth k (by omega))
  rw [← hsz] at hm2
  exact hm2
 have L7:Hid (∀ i k,i<g.fair.flows.length→(fwrAt rs i).hd.ownBlock=some k→W6.heap.size≤k):=fun i k hi hk=>by
  rcases (hr.row i hi).2 with ⟨e,_⟩|⟨g',cap',cur',e,hg,_⟩
  ·rw [e] at hk;cases hk
  ·rw [e] at hk;cases hk;exact hg
 have HV:Hid (((w7.setCell ⟨A,10,none⟩ (.int .i64 g.fair.now)).setCell ⟨A,11,none⟩ (.slice p7 g.fair.flows.length q7))=W7):=hV
 have B7:Hid (A+2≤W6.heap.size):=hb7
 clear hr hr' hm oth q Y hsz hV
 go_upto_region 8 with fail
 rw [HV.out]
 clear HV X6 A7 c10 d10 f10 c11 d11 f11 hu7 hb7
 have T:∀ {i j l:World},(i.heap.size≤j.heap.size∧∀ k,A+2≤k→k<i.heap.size→j.heap[k]? = i.heap[k]?)→(j.heap.size≤l.heap.size∧∀ k,A+2≤k→k<j.heap.size→l.heap[k]? = j.heap[k]?)→(i.heap.size≤l.heap.size∧∀ k,A+2≤k→k<i.heap.size→l.heap[k]? = i.heap[k]?):=fun h1 h2=>⟨Nat.le_trans h1.1 h2.1,fun k k1 k2=>(h2.2 k k1 (Nat.lt_of_lt_of_le k2 h1.1)).trans (h1.2 k k1 k2)⟩
 have T6:=F7.out
 have T5:=T F6.out T6
 have T4:=T F5.out T5
 have T3:=T F4.out T4
 have T2:=T F3.out T3
 have T1:=T F2.out T2
 have O7:Hid (GtO (A+2) W7 ⟨p1,q1,p2,q2,p3,q3,p4,q4,p5,q5,p6,q6,p7,q7⟩ vs rs g):=mkO.out W7 p1 q1 p2 q2 p3 q3 p4 q4 p5 q5 p6 q6 p7 q7 vs rs (A+2) (R1.out.carry fun k hk hl=>T1.2 k (R1.out.lt k hk).1 hl) (R2.out.carry fun k hk hl=>T2.2 k (R2.out.lt k hk).1 hl) (R3.out.carry fun k hk hl=>T3.2 k (R3.out.lt k hk).1 hl) (R4.out.carry T4.2) (R5.out.other T5.2) (R6.out.carry fun k hk hl=>T6.2 k (R6.out.lt k hk).1 hl) R7.out (fun i k hi hk e=>by
  have h1:=L7.out i k hi hk
  have h2:=L4.out k e
  have h3:=T4.1
  have h4:=F5.out.1
  have h5:=F6.out.1
  omega)
 have O8:Hid (GtW W7 ⟨p1,q1,p2,q2,p3,q3,p4,q4,p5,q5,p6,q6,p7,q7⟩ ⟨W0.heap.size,W1.heap.size,W1.heap.size,W2.heap.size,W2.heap.size,W3.heap.size,W3.heap.size,W4.heap.size,W4.heap.size,W5.heap.size,W5.heap.size,W6.heap.size,W6.heap.size,W7.heap.size⟩ g):=⟨(M1.out.keep T1.1 (fun k k1 k2=>T1.2 k (Nat.le_trans B1.out k1) k2)),(M2.out.keep T2.1 (fun k k1 k2=>T2.2 k (Nat.le_trans B2.out k1) k2)),(M3.out.keep T3.1 (fun k k1 k2=>T3.2 k (Nat.le_trans B3.out k1) k2)),(M4.out.keep T4.1 (fun k k1 k2=>T4.2 k (Nat.le_trans B4.out k1) k2)),(M5.out.keep T5.1 (fun k k1 k2=>T5.2 k (Nat.le_trans B5.out k1) k2)),(M6.out.keep T6.1 (fun k k1 k2=>T6.2 k (Nat.le_trans B6.out k1) k2)),M7.out⟩
 have O9:Hid ((⟨W0.heap.size,W1.heap.size,W1.heap.size,W2.heap.size,W2.heap.size,W3.heap.size,W3.heap.size,W4.heap.size,W4.heap.size,W5.heap.size,W5.heap.size,W6.heap.size,W6.heap.size,W7.heap.size⟩:Gf).In (A+2) W7.heap.size∧(⟨W0.heap.size,W1.heap.size,W1.heap.size,W2.heap.size,W2.heap.size,W3.heap.size,W3.heap.size,W4.heap.size,W4.heap.size,W5.heap.size,W5.heap.size,W6.heap.size,W6.heap.size,W7.heap.size⟩:Gf).Apart):=by
  have b1:=B1.out
  have e1:=F1.out.1
  have e2:=F2.out.1
  have e3:=F3.out.1
  have e4:=F4.out.1
  have e5:=F5.out.1
  have e6:=F6.out.1
  have e7:=F7.out.1
  constructor<;>constructor<;>(try simp only)<;>omega
 have hm0:True:=trivial
 clear M1 M2 M3 M4 M5 M6 M7 B1 B2 B3 B4 B5 B6 B7 T T1 T2 T3 T4 T5 T6 R1 R2 R3 R4 R5 R6 R7 F1 F2 F3 F4 F5 F6 F7 L4 L7 mkO
 go_wp2_with (first|(refine wpList_load_row rfl 50 (.tmp 1) rfl A rfl _ _ _ _ X7.out.1 Tryz.underlying50 rfl (by kernel_rfl) ?_)|(refine wpList_store_row rfl 50 (.tmp 2) (.tmp 31) rfl (A+1) (gc g.ln.kind g.ln.extra g.ln.least (.slice p1 g.routes.length q1) (.slice p2 g.rules.length q2) (.slice p3 g.tree.length q3) (.slice p4 g.leaves.length q4) g.rows.most (.slice p5 g.rows.lists.length q5) (.slice p6 g.steers.length q6) g.fair.now (.slice p7 g.fair.flows.length q7) g.next g.draw) rfl rfl _ _ X7.out.2.1 (by kernel_rfl) rfl (by simp [Value.oneCell']) ?_))
 refine bodyPost_ret (results_cell_row Tryz.results42 _ _ (A+1) _ _ _ _ rfl (setRow_heap _ (A+1) _ _ _ _ X7.out.2.1) Tryz.underlying50 rfl (by kernel_rfl)) rfl ⟨⟨⟨p1,q1,p2,q2,p3,q3,p4,q4,p5,q5,p6,q6,p7,q7⟩,_,vs,rs,rfl,?_,O8.out.keep O9.out.1 (by simp) (fun k k1 _=>setRow_other _ _ _ _ (by omega)),?_,O9.out.2⟩,below_setRow X7.out.2.2 (by rw [HA.out];omega) _⟩
 ·exact (O7.out.other (fun k hk _=>setRow_other _ _ _ _ (by omega))).mono (by rw [HA.out];omega)
 ·have i:=O9.out.1
  rw [← HA.out]
  simpa using i
end Go.Proofs.YtmfabeghfdoibaaGreat
