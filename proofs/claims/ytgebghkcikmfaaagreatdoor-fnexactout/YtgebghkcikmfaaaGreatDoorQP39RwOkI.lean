import Derived.Test.YtgebghkcikmfaaaGreatDoorQP11NumUp
import Derived.Test.YtgebghkcikmfaaaGreatDoorQP17RwFn
import Derived.Shelf.Abstract
import Derived.Laws.CopyRow
import Derived.Laws.IdiomCopy
import Derived.Test.YtgebghkcikmfaaaGreatDoorQP9IzBlk
import Derived.Test.YtgebghkcikmfaaaGreatDoorQP3IzGrow
import Derived.Test.YtgebghkcikmfaaaGreatDoorQP7StepRow
import Derived.Laws.ResultCell
import Derived.Laws.CopyOwn
import Derived.Test.YtgebghkcikmfaaaGreatDoorQP33RegList
import Derived.Maps.OwnSet
import Derived.Deep.RegionWith
set_option maxHeartbeats 6400000
set_option maxRecDepth 100000
namespace Go.Proofs.YtgebghkcikmfaaaGreatDoor
open Go.RowKit
theorem implIndexN (a:Option Addr) (cap:Nat) (l:List Int) (x:Int) (w:World) (hT:l.length≤1048576) (h:Hid (IntsAt w a l)) :
 Calls Tryz.prog 250 #[.slice a l.length cap,.int .i64 x] w fun e w'=>e = .returned (.int .i64 (if l.findIdx (fun z=>decide (x=z))<l.length then (l.findIdx (fun z=>decide (x=z)):Int) else -1))∧w'=w:=by
 obtain ⟨len,hlen⟩:∃ n,l.length=n:=⟨_,rfl⟩
 have Hlen:Hid (l.length=len):=hlen
 obtain ⟨N,hN⟩:∃ N,l.findIdx (fun z=>decide (x=z))=N:=⟨_,rfl⟩
 have HN:Hid (l.findIdx (fun z=>decide (x=z))=N):=hN
 have hNl:N≤len:=by rw [← hN,← hlen];exact List.findIdx_le_length
 rw [hlen] at hT ⊢
 rw [hN]
 clear hlen hN
 go_enter Tryz.func250,Tryz.ntmps250
 go_wp2
 go_loop [8] (fun i=>∃ k:Nat,k≤N∧i = .int .i64 k) (fun i=>len-(intOf i).toNat)
 case atStart=>exact ⟨0,Nat.zero_le _,rfl⟩
 case round =>
  obtain ⟨k,hk,rfl⟩:=hrel
  by_cases hlt:k<len
  ·obtain ⟨b1,o1,ha1,hb1,c0⟩:=h.out k (by rw [Hlen.out];exact hlt)
   subst ha1
   have hkL:k<l.length:=by rw [Hlen.out];exact hlt
   rw [List.getElem?_eq_getElem hkL,Option.getD_some] at c0
   have hlt':(k:Int)<(len:Int):=by omega
   by_cases hkN:k=N
   ·have hp:x=l[k]:=by
     have:=List.findIdx_getElem (p:=fun z=>decide (x=z)) (xs:=l) (w:=by rw [HN.out,Hlen.out,← hkN];exact hlt)
     simpa only [HN.out,← hkN,decide_eq_true_eq] using this
    rw [← hp] at c0
    clear hp hkL
    subst hkN
    go_wp2
    go_ret
    exact ⟨by first|rfl|(rw [if_pos hlt];rfl),rfl⟩
   ·have hp:¬ x=l[k]:=by
     have:=List.not_of_lt_findIdx (p:=fun z=>decide (x=z)) (xs:=l) (i:=k) (by rw [HN.out];omega)
     simpa using this
    generalize l[k]=y at c0 hp
    clear hkL
    go_wp2
    go_round
    case rel=>exact ⟨k+1,by omega,by go_num⟩
    case measure=>simp [intOf];omega
  ·obtain rfl:k=len:=by omega
   obtain rfl:k=N:=by omega
   go_wp2
   go_ret
   exact ⟨by first|rfl|(rw [if_neg (Nat.lt_irrefl _)];rfl),rfl⟩
theorem implHasN (a:Option Addr) (cap:Nat) (l:List Int) (x:Int) (w:World) (hT:l.length≤1048576) (h:Hid (IntsAt w a l)) :
 Calls Tryz.prog 196 #[.slice a l.length cap,.int .i64 x] w fun e w'=>e = .returned (.bool (decide (x∈l)))∧w'=w:=by
 have I:=implIndexN a cap l x w hT h
 have hd:decide (x∈l)=decide (l.findIdx (fun z=>decide (x=z))<l.length):=by
  rw [Bool.eq_iff_iff,decide_eq_true_iff,decide_eq_true_iff,List.findIdx_lt_length]
  simp
 rw [hd]
 generalize l.findIdx (fun z=>decide (x=z))=N at I ⊢
 generalize l.length=len at I ⊢
 clear hd hT h
 go_enter Tryz.func196,Tryz.ntmps196
 go_wp2_with fail
 refine I.mono ?_
 rintro e w1 ⟨rfl,rfl⟩
 clear I
 by_cases hk:N<len
 ·rw [if_pos hk]
  have h0:(0:Int)≤(N:Int):=by omega
  go_wp2
  go_ret
  exact ⟨by simp [hk],rfl⟩
 ·rw [if_neg hk]
  go_wp2
  go_ret
  exact ⟨by simp [hk],rfl⟩
theorem one_of (most n:Int):(inB 0 most n && !decide ((0:Int)∈[n]))=inB 1 most n:=by
 rw [Bool.eq_iff_iff]
 simp only [Bool.and_eq_true,inB_true,Bool.not_eq_true',decide_eq_false_iff_not,List.mem_singleton]
 omega
theorem implFromOne (most n:Int) (B:Nat) (w:World) (hB:B=w.heap.size) :
 Calls Tryz.prog 133 #[.int .i64 most,.slice (some ⟨B,0,none⟩) 1 1] (w.alloc (.cells #[.int .i64 n] 2)) fun e w'=>e = .returned (.bool (inB 1 most n))∧w'=w.alloc (.cells #[.int .i64 n] 2):=by
 have A1:=fun (_:Nat)=>implUpTo1 most n w B hB
 have hI:Hid (IntsAt (w.alloc (.cells #[.int .i64 n] 2)) (some ⟨B,0,none⟩) [n]):=ints_new w 2 [n] #[.int .i64 n] B hB rfl
 have A2:=fun (_:Nat)=>implHasN (some ⟨B,0,none⟩) 1 [n] 0 (w.alloc (.cells #[.int .i64 n] 2)) (by simp) hI
 rw [show ([n]:List Int).length=1 from rfl] at A2
 have H:=one_of most n
 generalize decide ((0:Int)∈[n])=z at A2 H
 generalize inB 0 most n=y at A1 H
 generalize inB 1 most n=x at H ⊢
 generalize w.alloc (.cells #[.int .i64 n] 2)=W at A1 A2 ⊢
 have A1':Hid _:=A1
 have A2':Hid _:=A2
 have HH:Hid _:=H
 clear A1 A2 H hI hB
 go_enter Tryz.func133,Tryz.ntmps133
 go_wp2_with fail
 refine (A1'.out 0).mono ?_
 rintro e w1 ⟨rfl,rfl⟩
 cases y
 ·go_wp2
  go_ret
  exact ⟨ret_bool (by rw [← HH.out];rfl),rfl⟩
 go_wp2_with fail
 refine (A2'.out 0).mono ?_
 rintro e w2 ⟨rfl,rfl⟩
 go_wp2
 go_ret
 exact ⟨ret_bool (by rw [← HH.out];cases z<;>rfl),rfl⟩
theorem implItem (i:It) (w:World) :
 Calls Tryz.prog 203 #[i.val] w fun e w'=>e = .returned (.bool i.ok)∧Bel w w':=by
 have Hok:Hid (i.ok=(inB 1 1000000 i.id&&(inB 1 100000 i.size&&inB 0 1099511627776 i.tm))):=rfl
 obtain ⟨k,x,m⟩:=i
 generalize It.ok _=ok at Hok ⊢
 simp only [It.val] at Hok ⊢
 have A1:=fun B w h=>implFromOne 1000000 k B w h
 have A2:=fun B w h=>implFromOne 100000 x B w h
 have A3:=fun B w h=>implUpTo1 1099511627776 m w B h
 generalize inB 1 1000000 k=b1 at A1 Hok
 generalize inB 1 100000 x=b2 at A2 Hok
 generalize inB 0 1099511627776 m=b3 at A3 Hok
 have A1':Hid _:=A1
 have A2':Hid _:=A2
 have A3':Hid _:=A3
 clear A1 A2 A3
 go_enter Tryz.func203,Tryz.ntmps203
 go_wp2_with fail
 refine (A1'.out _ _ (by simp)).mono ?_
 rintro e w' ⟨rfl,rfl⟩
 cases b1
 ·go_wp2
  go_ret
  exact ⟨ret_bool (by rw [Hok.out];rfl),((Below.refl _ _).alloc nlr _).alloc (by simp) _⟩
 go_wp2_with fail
 refine (A2'.out _ _ (by simp)).mono ?_
 rintro e w' ⟨rfl,rfl⟩
 cases b2
 ·go_wp2
  go_ret
  exact ⟨ret_bool (by rw [Hok.out];rfl),(((Below.refl _ _).alloc nlr _).alloc (by simp) _).alloc (by simp;omega) _⟩
 go_wp2_with fail
 refine (A3'.out _ _ (by simp)).mono ?_
 rintro e w' ⟨rfl,rfl⟩
 go_wp2
 go_ret
 exact ⟨ret_bool (by rw [Hok.out];rfl),((((Below.refl _ _).alloc nlr _).alloc (by simp) _).alloc (by simp;omega) _).alloc (by simp;omega) _⟩
open Go.RowKit Go.Shelf
structure ItTells (W0:World) (D:Nat→Prop) (g:FuncId) (fs cb:Array Value) (Q:It→Prop) (p:It→Bool):Prop where
 enters:Enters Tryz.prog g
 under:∀ k,D k→k<W0.heap.size
 tells:∀ (W:World) (r:It),Q r→(∀ k,D k→W.heap[k]? = W0.heap[k]?)→Calls Tryz.prog g (fs++#[r.val]++cb) W fun e w'=>e = .returned (.bool (p r))∧Bel W w'
theorem implIndexT (a:Option Addr) (cap:Nat) (l:List It) (g:FuncId) (fs cb:Array Value) (D:Nat→Prop) (Q:It→Prop) (p:It→Bool) (w:World) (hT:l.length≤1048576) (h:Hid (ItsAt w a l)) (hq:Hid (∀ r∈l,Q r)) (ht:Hid (ItTells w D g fs cb Q p)) :
 Calls Tryz.prog 225 #[.slice a l.length cap,.func (.func g) fs cb] w fun e w'=>e = .returned (.int .i64 (if l.findIdx p<l.length then (l.findIdx p:Int) else -1))∧Bel w w':=by
 have eg:∀ args w,(callFunc g args).run Tryz.prog w = .ok (.enter g args) w:=ht.out.enters
 obtain ⟨len,hlen⟩:∃ n,l.length=n:=⟨_,rfl⟩
 have Hlen:Hid (l.length=len):=hlen
 obtain ⟨N,hN⟩:∃ N,l.findIdx p=N:=⟨_,rfl⟩
 have HN:Hid (l.findIdx p=N):=hN
 have hNl:N≤len:=by rw [← hN,← hlen];exact List.findIdx_le_length
 rw [hlen] at hT ⊢
 rw [hN]
 clear hlen hN
 go_enter Tryz.func225,Tryz.ntmps225
 go_wp2
 go_loopw [8] (fun i wr=>∃ k:Nat,k≤N∧i = .int .i64 k∧Hid (Bel w wr)) (fun i _=>len-(intOf i).toNat)
 case atStart=>exact ⟨0,Nat.zero_le _,rfl,Below.refl _ _⟩
 case round =>
  obtain ⟨k,hk,rfl,H1⟩:=hrel
  by_cases hlt:k<len
  ·have R:Hid (ItsAt wr a l):=h.out.below H1.out
   obtain ⟨b1,o1,ha1,hb1,-⟩:=R.out k (by rw [Hlen.out];exact hlt)
   subst ha1
   obtain ⟨c0,c1,c2⟩:=R.out.cells (k:=k) (by rw [Hlen.out];exact hlt)
   have hmem:itAt l k∈l:=by rw [itAt_lt (by rw [Hlen.out];exact hlt)];exact List.getElem_mem _
   have HC:=ht.out.tells wr (itAt l k) (hq.out _ hmem) fun j hj=>H1.out.block j (ht.out.under j hj)
   unfold It.val at HC
   have hlt':(k:Int)<(len:Int):=by omega
   by_cases hkN:k=N
   ·have hp:p (itAt l k)=true:=by
     rw [itAt_lt (by rw [Hlen.out];exact hlt)]
     have:=List.findIdx_getElem (p:=p) (xs:=l) (w:=by rw [HN.out,Hlen.out,← hkN];exact hlt)
     simpa only [HN.out,← hkN] using this
    rw [hp] at HC
    clear hmem hp R
    generalize itAt l k=r at c0 c1 c2 HC
    subst hkN
    go_wp2_with fail
    refine HC.mono ?_
    rintro e w' ⟨rfl,hb'⟩
    have B2:Hid (Bel w w'):=H1.out.trans (hb'.mono H1.out.size)
    clear hb' H1 HC c0 c1 c2
    go_wp2
    go_ret
    exact ⟨by first|rfl|(rw [if_pos hlt];rfl),B2.out⟩
   ·have hp:p (itAt l k)=false:=by
     rw [itAt_lt (by rw [Hlen.out];exact hlt)]
     have:=List.not_of_lt_findIdx (p:=p) (xs:=l) (i:=k) (by rw [HN.out];omega)
     simpa using this
    rw [hp] at HC
    clear hmem hp R
    generalize itAt l k=r at c0 c1 c2 HC
    go_wp2_with fail
    refine HC.mono ?_
    rintro e w' ⟨rfl,hb'⟩
    have B2:Hid (Bel w w'):=H1.out.trans (hb'.mono H1.out.size)
    clear hb' H1 HC c0 c1 c2
    go_wp2
    go_roundw
    case rel=>exact ⟨k+1,by omega,by go_num,B2⟩
    case measure=>simp [intOf];omega
  ·obtain rfl:k=len:=by omega
   obtain rfl:k=N:=by omega
   go_wp2
   go_ret
   exact ⟨by first|rfl|(rw [if_neg (Nat.lt_irrefl _)];rfl),H1.out⟩
theorem any_idxT {α:Type} (l:List α) (p:α→Bool):decide (l.findIdx p<l.length)=l.any p:=by
 rw [Bool.eq_iff_iff,decide_eq_true_iff,List.findIdx_lt_length,List.any_eq_true]
theorem implContainsT (a:Option Addr) (cap:Nat) (l:List It) (g:FuncId) (fs cb:Array Value) (D:Nat→Prop) (Q:It→Prop) (p:It→Bool) (w:World) (hT:l.length≤1048576) (h:Hid (ItsAt w a l)) (hq:Hid (∀ r∈l,Q r)) (ht:Hid (ItTells w D g fs cb Q p)) :
 Calls Tryz.prog 163 #[.slice a l.length cap,.func (.func g) fs cb] w fun e w'=>e = .returned (.bool (l.any p))∧Bel w w':=by
 have I:=fun (w:World) h ht=>implIndexT a cap l g fs cb D Q p w hT h hq ht
 have Ha:Hid (decide (l.findIdx p<l.length)=l.any p):=any_idxT l p
 generalize l.any p=b at Ha ⊢
 by_cases hlt:l.findIdx p<l.length
 ·rw [if_pos hlt] at I
  rw [decide_eq_true hlt] at Ha
  generalize l.findIdx p=N at I hlt
  generalize l.length=len at I hlt hT ⊢
  have I':Hid _:=I
  clear I hlt
  have hp:(0:Int)≤(N:Int):=by omega
  go_enter Tryz.func163,Tryz.ntmps163
  go_wp2_with fail
  refine (I'.out _ h ht).mono ?_
  rintro e w' ⟨rfl,hb⟩
  have B2:Hid (Bel w w'):=hb
  clear hb
  go_wp2
  go_ret
  exact ⟨ret_bool (by rw [← Ha.out]),B2.out⟩
 ·rw [if_neg hlt] at I
  rw [decide_eq_false hlt] at Ha
  generalize l.length=len at I hT ⊢
  have I':Hid _:=I
  clear I hlt
  go_enter Tryz.func163,Tryz.ntmps163
  go_wp2_with fail
  refine (I'.out _ h ht).mono ?_
  rintro e w' ⟨rfl,hb⟩
  have B2:Hid (Bel w w'):=hb
  clear hb
  go_wp2
  go_ret
  exact ⟨ret_bool (by rw [← Ha.out]),B2.out⟩
theorem itcopy_none (w:World) (ty:TypeId) (d s:Option Addr) (dc sc:Nat) :
 (Builtin.copy_ #[111,111] ty #[.slice d 0 dc,.slice s 0 sc]).run Tryz.prog w = .ok (goInt 0) w:=by
 obtain ⟨i0,hi0,hz0,hz1,hz2⟩:=info_parts itInfo
 have hl:∀ (x:Addr),(loadCells x 0).run Tryz.prog w = .ok #[] w:=fun x=>by simpa using run_loadCells_list (P:=Tryz.prog) w x [] (by simp)
 cases d<;>cases s<;>simp [Builtin.copy_,run_underlying Tryz.underlying111,Builtin.lenOf,Builtin.firstCells,sizeOf,typeInfo,hi0,storeCells,hl]
theorem itcopy_run (w:World) (ty:TypeId) (g:Nat) (a:Option Addr) (sCap:Nat) (l:List It) (cur:Array Value)
 (hg:w.heap[g]? = some (.cells cur 52 (0,0))) (hc:cur.size=l.length*3) (h:ItsAt w a l) :
 (Builtin.copy_ #[111,111] ty #[.slice (some ⟨g,0,none⟩) l.length l.length,.slice a l.length sCap]).run Tryz.prog w =
  .ok (.int .i64 (l.length:Int)) (w.setRow g (itcells l).toArray):=by
 obtain ⟨i0,hi0,hz0,hz1,hz2⟩:=info_parts itInfo
 cases l with
 |nil =>
  have e:w.setRow g (itcells []).toArray=w:=by
   obtain rfl:cur=#[]:=by simpa using hc
   exact setRow_self w g _ _ _ hg
  rw [e]
  exact itcopy_none w ty _ _ _ _
 |cons x xs =>
  obtain ⟨b,off,ha,_⟩:=h 0 (by simp)
  subst ha
  have hsrc:∀ j v,(itcells (x :: xs))[j]? = some v→w.cell? ((⟨b,off,none⟩:Addr).add j)=some v:=by
   intro j u hj
   have hj':j<(x :: xs).length*3:=by
    have:=(List.getElem?_eq_some_iff.1 hj).1
    rwa [itcells_length] at this
   obtain ⟨k,i,rfl,hi⟩:∃ k i,j=k*3+i∧i<3:=⟨j/3,j%3,by omega,Nat.mod_lt _ (by omega)⟩
   have hk:k<(x :: xs).length:=by omega
   obtain ⟨b',off',e,_,c0,c1,c2⟩:=h k hk
   cases e
   obtain ⟨e0,e1,e2⟩:=itcells_get (x :: xs) k hk
   rw [show (⟨b,off,none⟩:Addr).add (k*3+i)=⟨b,off+k*3+i,none⟩ by by_cases h0:k*3+i=0<;>simp [Addr.add,h0,Nat.add_assoc];omega]
   match i,hi with
   |0,_=>rw [Nat.add_zero] at hj;rw [e0] at hj;rw [Nat.add_zero,c0];exact hj
   |1,_=>rw [e1] at hj;rw [c1];exact hj
   |2,_=>rw [e2] at hj;rw [c2];exact hj
  generalize hL:x :: xs=L at *
  have hl:=run_loadCells_list (P:=Tryz.prog) w ⟨b,off,none⟩ (itcells L) hsrc
  have hst:=run_storeCells_at Tryz.prog g 0 52 (itcells L) 0 cur w hg (by simp [itcells_length,hc]) (itcells_one L)
  have e1:(cur.toList.take 0++itcells L++cur.toList.drop (0+(itcells L).length))=itcells L:=by
   rw [List.take_zero,List.nil_append,Nat.zero_add,itcells_length,← hc,← Array.length_toList,List.drop_length,List.append_nil]
  rw [Nat.add_zero,e1] at hst
  have hm:Nat.min L.length L.length=L.length:=Nat.min_self _
  rw [itcells_length] at hl
  simp [Builtin.copy_,run_underlying Tryz.underlying111,Builtin.lenOf,Builtin.firstCells,sizeOf,typeInfo,hi0,hz1,hm,hl,hst]
  rfl
theorem implCopyOf (a:Option Addr) (cap:Nat) (l:List It) (w:World) (hT:l.length≤1048576) (h:Hid (ItsAt w a l)) :
 Calls Tryz.prog 175 #[.slice a l.length cap] w fun e w'=>∃ g,e = .returned (.slice (some ⟨g,0,none⟩) l.length l.length)∧ItRow w.heap.size w' (.slice (some ⟨g,0,none⟩) l.length l.length) l∧Below w.heap.size w w':=by
 obtain ⟨i0,hi,hz0,hz1,hz2⟩:=info_parts itInfo
 have hgm:(w.alloc (.cells (madeCells #[.int .i64 0,.int .i64 0,.int .i64 0] (l.length*3)) 52)).heap[w.heap.size]? = some (.cells (madeCells #[.int .i64 0,.int .i64 0,.int .i64 0] (l.length*3)) 52 (0,0)):=by
  show (w.heap.push _)[w.heap.size]? = _
  simp
 have hcp:=fun ty=>itcopy_run (w.alloc (.cells (madeCells #[.int .i64 0,.int .i64 0,.int .i64 0] (l.length*3)) 52)) ty w.heap.size a cap l _ hgm (by rw [size_madeCells]) (h.out.alloc _)
 have Fin:Hid (ItRow w.heap.size ((w.alloc (.cells (madeCells #[.int .i64 0,.int .i64 0,.int .i64 0] (l.length*3)) 52)).setRow w.heap.size (itcells l).toArray) (.slice (some ⟨w.heap.size,0,none⟩) l.length l.length) l∧Below w.heap.size w ((w.alloc (.cells (madeCells #[.int .i64 0,.int .i64 0,.int .i64 0] (l.length*3)) 52)).setRow w.heap.size (itcells l).toArray)):=by
  refine ⟨⟨itcells_length l,.inr ⟨w.heap.size,l.length,(itcells l).toArray,rfl,nlr,setRow_heap _ _ _ _ _ _ hgm,nlr,by unfold maxLen;omega,by simp [itcells_length],?_⟩⟩,?_⟩
  ·simp [← itcells_length]
  ·have b:Below w.heap.size w (w.alloc (.cells (madeCells #[.int .i64 0,.int .i64 0,.int .i64 0] (l.length*3)) 52)):=(Below.refl _ _).alloc nlr _
   exact b.trans ⟨rfl,rfl,rfl,by simp [World.setRow],fun k hk=>setRow_other _ _ k _ (by omega)⟩
 clear hgm
 obtain ⟨len,hlen⟩:∃ n,l.length=n:=⟨_,rfl⟩
 rw [hlen] at hT hcp Fin ⊢
 clear hlen
 have hmk:∀ wx,(Instr.makeSlice 111 (.int .i64 (len:Int)) (.int .i64 (len:Int))).run Tryz.prog wx = .ok (.slice (some ⟨wx.heap.size,0,none⟩) len len) (wx.alloc (.cells (madeCells #[.int .i64 0,.int .i64 0,.int .i64 0] (len*3)) 52)):=by
  intro wx
  have:=run_make (P:=Tryz.prog) wx 111 52 i0 (.agg #[.int .i64 0,.int .i64 0,.int .i64 0]) Tryz.underlying111 hi hz0 .i64 .i64 len len (by omega) (by omega) (by rw [hz2];omega) (by omega)
  rw [this,hz1];simp [Value.cells]
 clear hi hz0 hz1 hz2
 generalize (w.alloc (.cells (madeCells #[.int .i64 0,.int .i64 0,.int .i64 0] (len*3)) 52)).setRow w.heap.size (itcells l).toArray=W2 at hcp Fin
 go_enter Tryz.func175,Tryz.ntmps175
 go_wp2
 go_ret
 exact ⟨_,rfl,Fin.out⟩
theorem implInAllIt (ls:List (List It)) (a:Option Addr) (c:Nat) (w:World) (hT:ls.length≤1048576) (hS:izSum ls ls.length≤1048576) (h:Hid (IzAt w a ls)) :
 Calls Tryz.prog 257 #[.slice a ls.length c] w fun e w'=>e = .returned (.int .i64 (izSum ls ls.length))∧w'=w:=by
 obtain ⟨len,hlen⟩:∃ n,ls.length=n:=⟨_,rfl⟩
 rw [hlen] at hT hS ⊢
 have Hlen:Hid (ls.length=len):=hlen
 clear hlen
 go_enter Tryz.func257,Tryz.ntmps257
 go_wp2
 go_loop [3,8] (fun s i=>∃ (k:Nat) (q:Int),k≤len∧i = .int .i64 k∧s = .int .i64 q∧0≤q∧q≤1048576∧Hid (q=izSum ls k)) (fun _ i=>len-(intOf i).toNat)
 case atStart=>exact ⟨0,0,Nat.zero_le _,rfl,rfl,by omega,by omega,by show (0:Int)=(izSum ls 0:Nat);rw [izSum_zero];rfl⟩
 case round =>
  obtain ⟨k,q,hk,rfl,rfl,q0,q1,Hq⟩:=hrel
  by_cases hlt:k<len
  ·have hkl:k<ls.length:=by rw [Hlen.out];exact hlt
   obtain ⟨b,off,ak,ck,ha,hb,hc,-,-⟩:=h.out k hkl
   subst ha
   have hs:=izSum_succ hkl
   have hm:=izSum_mono (ls:=ls) (i:=k+1) (j:=len) (by omega) (by rw [Hlen.out];exact Nat.le_refl _)
   have q2:q+((izAt ls k).length:Int)≤1048576:=by have:=Hq.out;omega
   have Hs:Hid (izSum ls (k+1)=izSum ls k+(izAt ls k).length):=hs
   generalize (izAt ls k).length=n at hc q2 Hs
   clear hs hm
   go_wp2
   go_round
   case rel =>
    refine ⟨k+1,q+n,by omega,by go_num,by go_num,by omega,by omega,?_⟩
    show q+n=((izSum ls (k+1):Nat):Int)
    rw [Hs.out,Hq.out]
    push_cast
    rfl
   case measure=>simp [intOf];omega
  ·obtain rfl:k=len:=by omega
   go_wp2
   go_ret
   exact ⟨ret_num Hq.out,rfl⟩
theorem IzB.grow {ls:List (List It)} {len G:Nat} {vs:List Value} {wr:World} (h:IzB ls len G len vs wr) (hl:ls.length=len):IzG G (.slice (some ⟨G,0,none⟩) len len) vs ls wr:=by
 subst hl
 have ho:=h.outer
 rw [Nat.sub_self,List.replicate_zero,List.append_nil] at ho
 exact ⟨ho,h.len,h.row,fun i j k hi hj hne h1 h2=>h.apart i j hi hj hne (h1.trans h2.symm)⟩
def Tight (vs:List Value):Prop:=∀ i,i<vs.length→∃ x n,izV vs i = .slice (some ⟨x,0,none⟩) n n
theorem implOwnIt (ls:List (List It)) (a:Option Addr) (c:Nat) (w:World) (hT:ls.length≤1048576) (hin:∀ k,k<ls.length→(izAt ls k).length≤1048576) (h:Hid (IzAt w a ls)) :
 Calls Tryz.prog 165 #[.slice a ls.length c] w fun e w'=>(∃ vs,e = .returned (.slice (some ⟨w.heap.size,0,none⟩) ls.length ls.length)∧IzG w.heap.size (.slice (some ⟨w.heap.size,0,none⟩) ls.length ls.length) vs ls w'∧Tight vs)∧Below w.heap.size w w':=by
 have Hin:Hid (∀ k,k<ls.length→(izAt ls k).length≤1048576):=hin
 obtain ⟨i0,hi,hz0,hz1,hz2⟩:=info_parts izInfo
 obtain ⟨n,hn⟩:∃ n,ls.length=n:=⟨_,rfl⟩
 rw [hn] at hT ⊢
 have Hn:Hid (ls.length=n):=hn
 clear hn hin
 have hmk:∀ wx,(Instr.makeSlice 42 (.int .i64 (n:Int)) (.int .i64 (n:Int))).run Tryz.prog wx = .ok (.slice (some ⟨wx.heap.size,0,none⟩) n n) (wx.alloc (.cells (madeCells #[.slice none 0 0] (n*1)) 111)):=by
  intro wx
  have:=run_make (P:=Tryz.prog) wx 42 111 i0 (.slice none 0 0) Tryz.underlying42 hi hz0 .i64 .i64 n n (by omega) (by omega) (by rw [hz2];omega) (by omega)
  rw [this,hz1];simp [Value.cells]
 clear hi hz0 hz1 hz2
 have X:Hid (IzB ls n w.heap.size 0 [] (w.alloc (.cells (madeCells #[.slice none 0 0] (n*1)) 111))∧Below w.heap.size w (w.alloc (.cells (madeCells #[.slice none 0 0] (n*1)) 111))):=by
  refine ⟨?_,(Below.refl _ _).alloc nlr _⟩
  have:=World.ownsRow_lit (size:=1) (e:=111) (base:=w.heap.size) w (madeCells #[.slice none 0 0] (n*1)) n nlr (by unfold maxLen;omega) (by rw [size_madeCells])
  rw [izMade] at this
  exact ⟨by simpa using this,rfl,fun i hi=>by omega,fun i hi=>by omega,fun i j hi=>by omega⟩
 rw [Nat.mul_one] at X
 obtain ⟨G,hG0⟩:∃ G,G=w.heap.size:=⟨_,rfl⟩
 have HG:Hid (G=w.heap.size):=hG0
 clear hG0
 go_enter Tryz.func165,Tryz.ntmps165
 go_wp2
 rw [← HG.out] at X ⊢
 generalize w.alloc (.cells (madeCells #[.slice none 0 0] n) 111)=W1 at X ⊢
 go_loopw [11] (fun i wr=>∃ k:Nat,k≤n∧i = .int .i64 k∧Hid (∃ vs,IzB ls n G k vs wr∧Below G w wr∧Tight vs)) (fun i _=>n-(intOf i).toNat)
 case atStart=>exact ⟨0,Nat.zero_le _,rfl,[],X.out.1,X.out.2,fun i hi=>by simp at hi⟩
 case round =>
  clear X hmk
  obtain ⟨k,hk,rfl,H1⟩:=hrel
  obtain ⟨vs,H1⟩:∃ vs,Hid (IzB ls n G k vs wr∧Below G w wr∧Tight vs):=H1.out
  have Bw:Hid (Below w.heap.size w wr):=by have:=H1.out.2.1;rw [HG.out] at this;exact this
  by_cases hlt:k<n
  ·have R:Hid (IzAt wr a ls):=h.out.below Bw.out
   obtain ⟨b1,o1,i1,c1,ha1,hb1,hc1,hr1,-⟩:=R.out k (by rw [Hn.out];exact hlt)
   subst ha1
   have hn:=Hin.out k (by rw [Hn.out];exact hlt)
   have T:=fun w h=>implCopyOf i1 c1 (izAt ls k) w hn h
   have hG:G<wr.heap.size:=(World.ownsRow.lt H1.out.1.outer _ rfl).2
   have hlt':(k:Int)<(n:Int):=by omega
   have St:Hid (∀ w2 x,ItRow wr.heap.size w2 (.slice (some ⟨x,0,none⟩) (izAt ls k).length (izAt ls k).length) (izAt ls k)→Below wr.heap.size wr w2 →
    (∃ vs',IzB ls n G (k+1) vs' (w2.setCell ⟨G,k,none⟩ (.slice (some ⟨x,0,none⟩) (izAt ls k).length (izAt ls k).length))∧Below G w (w2.setCell ⟨G,k,none⟩ (.slice (some ⟨x,0,none⟩) (izAt ls k).length (izAt ls k).length))∧Tight vs')∧(∃ y,w2.cell? ⟨G,k,none⟩=some y)∧w2.frozen? ⟨G,k,none⟩=false):=fun w2 x q1 q2=>by
    have hb:=H1.out.1.below q2
    refine ⟨⟨_,H1.out.1.add hlt q2 q1,(H1.out.2.1.trans (q2.mono (by omega))).setCell nlr _,fun i hi=>?_⟩,?_,hb.outer.frozenAt k⟩
    ·by_cases e:i<vs.length
     ·rw [izV_old e];exact H1.out.2.2 i e
     ·obtain rfl:i=vs.length:=by simp at hi;omega
      rw [izV_new]
      exact ⟨_,_,rfl⟩
    ·rw [hb.outer.cellAt k (by omega)]
     exact ⟨_,List.getElem?_eq_getElem (by have:=hb.len;simp;omega)⟩
   generalize izAt ls k=l at hc1 hr1 T St
   generalize hln:l.length=m at hc1 T St
   clear hln
   have T':Hid _:=T
   have Hr1:Hid (ItsAt wr i1 l):=hr1
   clear T hr1 hn R
   go_wp2_with fail
   refine (T'.out _ Hr1.out).mono ?_
   rintro e w2 ⟨x,rfl,q1,q2⟩
   obtain ⟨H3,⟨y,hy⟩,hz⟩:=St.out w2 x q1 q2
   have H3:Hid _:=H3
   have hG2:G<w2.heap.size:=Nat.lt_of_lt_of_le hG q2.size
   clear q1 q2 St hc1
   go_wp2
   go_roundw
   case rel=>exact ⟨k+1,by omega,by go_num,H3⟩
   case measure=>simp [intOf];omega
  ·obtain rfl:k=n:=by omega
   have Y:Hid (IzG G (.slice (some ⟨G,0,none⟩) k k) vs ls wr∧Tight vs):=⟨H1.out.1.grow Hn.out,H1.out.2.2⟩
   clear H1
   go_wp2
   go_ret
   refine ⟨⟨vs,?_,?_⟩,Bw.out⟩
   ·rw [← HG.out];rfl
   ·have:=Y.out;rw [HG.out] at this;exact this
theorem implCntRw (r:Rw) (a:Option Addr) (c:Nat) (w:World) (hB:r.big≤1048576) (h:Hid (IzAt w a r.lists)) :
 Calls Tryz.prog 205 #[r.val a c] w fun e w'=>e = .returned (.int .i64 (izSum r.lists r.lists.length))∧Bel w w':=by
 obtain ⟨hT,hS,-⟩:=Rw.small hB
 obtain ⟨f,ls⟩:=r
 simp only [Rw.val] at h hT hS ⊢
 have b0:Bel w (w.alloc (.cells #[.int .i64 f,.slice a ls.length c] 44)):=(Below.refl _ _).alloc nlr _
 have C:=fun (_:Nat)=>implInAllIt ls a c _ hT hS (h.out.below b0)
 generalize izSum ls ls.length=s at C ⊢
 generalize ls.length=n at C b0 ⊢
 have C':Hid _:=C
 have B0:Hid _:=b0
 clear C b0 h hB hT hS
 go_enter Tryz.func205,Tryz.ntmps205
 go_wp2_with fail
 refine (C'.out 0).mono ?_
 rintro e w' ⟨rfl,rfl⟩
 go_wp2
 go_ret
 exact ⟨rfl,B0.out⟩
theorem implCpyRw (r:Rw) (a:Option Addr) (c:Nat) (w:World) (hB:r.big≤1048576) (h:Hid (IzAt w a r.lists)) :
 Calls Tryz.prog 99 #[r.val a c] w fun e w'=>(∃ v vs,e = .returned (.agg #[.int .i64 r.most,v])∧IzG (w.heap.size+2) v vs r.lists w'∧Tight vs)∧Bel w w':=by
 obtain ⟨hT,-,hin⟩:=Rw.small hB
 obtain ⟨f,ls⟩:=r
 simp only [Rw.val] at h hT hin ⊢
 clear hB
 have C:=fun (w:World) (hh:IzAt w a ls)=>implOwnIt ls a c w hT hin hh
 obtain ⟨n,hn⟩:∃ n,ls.length=n:=⟨_,rfl⟩
 rw [hn] at C ⊢
 have C':Hid _:=C
 have Hn:Hid (ls.length=n):=hn
 clear C hT hin hn
 obtain ⟨W,hW⟩:∃ W,W=(w.alloc (.cells #[.int .i64 f,.slice a n c] 44)).alloc (.cells #[.int .i64 0,.slice none 0 0] 44):=⟨_,rfl⟩
 have X:Hid (W.heap.size=w.heap.size+2∧Boxed W w.heap.size #[.int .i64 f,.slice a n c] 44∧Boxed W (w.heap.size+1) #[.int .i64 0,.slice none 0 0] 44∧Bel w W):=by
  rw [hW]
  refine ⟨by simp,(Boxed.new w _ _).more _,?_,((Below.refl _ _).alloc nlr _).alloc (by simp) _⟩
  have:=Boxed.new (w.alloc (.cells #[.int .i64 f,.slice a n c] 44)) #[.int .i64 0,.slice none 0 0] 44
  simpa using this
 have HK:Hid (IzAt w a ls):=h
 have HWe:Hid (W=_):=hW
 clear hW h
 go_enter Tryz.func99,Tryz.ntmps99
 go_upto_region 1 with fail
 rw [← HWe.out]
 clear HWe
 refine region_lists (G:=Nat) (by kernel_rfl) (by kernel_rfl) (by kernel_rfl) (fun i=>if i=4 then 5 else if i=5 then 6 else 99) (fun (L:Nat→Bool) (_:Nat) (x:World)=>L 6=false→Bel W x) (fun i _ x _ x'=>i≠4→i≠6→x'=x) (fun k y x u=>([fun _ _ u=>u = .pointer (some ⟨w.heap.size,0,none⟩),fun _ _ u=>u = .int .i64 f,fun _ _ u=>u = .pointer (some ⟨w.heap.size,1,none⟩),fun _ _ u=>u = .slice a n c,fun _ x u=>∃ g vs,u = .slice (some ⟨g,0,none⟩) n n∧IzG (w.heap.size+2) u vs ls x∧Tight vs∧Bel W x,fun _ x u=>∃ g vs,u = .agg #[.int .i64 f,.slice (some ⟨g,0,none⟩) n n]∧IzG (w.heap.size+2) (.slice (some ⟨g,0,none⟩) n n) vs ls x∧Tight vs∧Bel W x,fun _ x _=>∃ g vs,Boxed x (w.heap.size+1) #[.int .i64 f,.slice (some ⟨g,0,none⟩) n n] 44∧IzG (w.heap.size+2) (.slice (some ⟨g,0,none⟩) n n) vs ls x∧Tight vs∧Bel w x]:List (Nat→World→Value→Prop)).getD k (fun _ _ _=>True) y x u) ?hR 0 ?h0 ?step ?last
 case hR =>
  intro i' j' y y' x x' u hi1 hj1 hne hu h1 h2 hp hr
  have hj':j'<7:=hj1
  have hi':i'<7:=hi1
  have hcases:j'=0∨j'=1∨j'=2∨j'=3∨j'=4∨j'=5∨j'=6:=by omega
  rcases hcases with rfl|rfl|rfl|rfl|rfl|rfl|rfl
  ·exact hp
  ·exact hp
  ·exact hp
  ·exact hp
  ·have e:x'=x:=hr hne (by rintro rfl;exact absurd h2 (by decide +kernel))
   subst e
   exact hp
  ·have e:x'=x:=hr (by rintro rfl;exact absurd h1 (by decide +kernel)) (fun e=>hu e.symm)
   subst e
   exact hp
  ·have e:x'=x:=hr (by rintro rfl;exact absurd h1 (by decide +kernel)) hne
   subst e
   exact hp
 case h0=>exact fun _=>(Below.refl _ _).drew
 case step =>
  intro q o hq ho L a' y x hLi hwt hre hkp hI hp
  have s1:a'.tmps[1]?.getD undef = .pointer (some ⟨w.heap.size,0,none⟩):=by have h2:a'.tmps.getD 1 undef = .pointer (some ⟨w.heap.size,0,none⟩):=hkp.slot 1 (by kernel_rfl);simpa using h2
  have s2:a'.tmps.getD 2 undef = .pointer (some ⟨w.heap.size+1,0,none⟩):=hkp.slot 2 (by kernel_rfl)
  have hI':∀ k:Nat,k≠6→(if (6:Nat)=k then true else L 6)=false→Bel W x:=by
   intro k n1 z
   have e1:(if (6:Nat)=k then true else L 6)=L 6:=if_neg (fun e=>n1 e.symm)
   rw [e1] at z
   exact hI z
  have hbx:L 6=false→x.cell? ⟨w.heap.size,0,none⟩=some (.int .i64 f)∧x.cell? ⟨w.heap.size,1,none⟩=some (.slice a n c):=fun z=>by
   have b:=X.out.2.1.below X.out.2.1.under (hI z)
   exact ⟨b.cell 0 rfl,b.cell 1 rfl⟩
  have hq':q<7:=hq
  have hcases:q=0∨q=1∨q=2∨q=3∨q=4∨q=5∨q=6:=by omega
  rcases hcases with rfl|rfl|rfl|rfl|rfl|rfl|rfl
  ·cases ho
   refine ⟨wno rfl,Oper.wp_mono (K:=fun z x'=>z=a'.put (some 3) (.pointer (some ⟨w.heap.size,0,none⟩))∧x'=x) ?_ ?_⟩
   ·rintro z x' ⟨rfl,rfl⟩
    exact ⟨_,y,rfl,fun _ _=>rfl,hI' 0 (by decide),fun u hu=>hu (fun h=>by cases h)⟩
   ·unfold Oper.wp
    simp [go_sem,s1]
  ·cases ho
   have e0:a'.tmps.getD 3 undef = .pointer (some ⟨w.heap.size,0,none⟩):=hp 0 (od (by kernel_rfl)) (.inr (by decide))
   have e0':a'.tmps[3]?.getD undef = .pointer (some ⟨w.heap.size,0,none⟩):=by simpa using e0
   have z6:L 6=false:=hre 6 (by kernel_rfl)
   obtain ⟨c0,c1⟩:=hbx z6
   refine ⟨wno rfl,Oper.wp_mono (K:=fun z x'=>z=a'.put (some 4) (.int .i64 f)∧x'=x) ?_ ?_⟩
   ·rintro z x' ⟨rfl,rfl⟩
    exact ⟨_,y,rfl,fun _ _=>rfl,hI' 1 (by decide),fun u hu=>hu (fun h=>by cases h)⟩
   ·unfold Oper.wp
    simp [go_sem,e0',c0]
  ·cases ho
   refine ⟨wno rfl,Oper.wp_mono (K:=fun z x'=>z=a'.put (some 5) (.pointer (some ⟨w.heap.size,1,none⟩))∧x'=x) ?_ ?_⟩
   ·rintro z x' ⟨rfl,rfl⟩
    exact ⟨_,y,rfl,fun _ _=>rfl,hI' 2 (by decide),fun u hu=>hu (fun h=>by cases h)⟩
   ·unfold Oper.wp
    simp [go_sem,s1]
  ·cases ho
   have e0:a'.tmps.getD 5 undef = .pointer (some ⟨w.heap.size,1,none⟩):=hp 2 (od (by kernel_rfl)) (.inr (by decide))
   have e0':a'.tmps[5]?.getD undef = .pointer (some ⟨w.heap.size,1,none⟩):=by simpa using e0
   have z6:L 6=false:=hre 6 (by kernel_rfl)
   obtain ⟨c0,c1⟩:=hbx z6
   refine ⟨wno rfl,Oper.wp_mono (K:=fun z x'=>z=a'.put (some 6) (.slice a n c)∧x'=x) ?_ ?_⟩
   ·rintro z x' ⟨rfl,rfl⟩
    exact ⟨_,y,rfl,fun _ _=>rfl,hI' 3 (by decide),fun u hu=>hu (fun h=>by cases h)⟩
   ·unfold Oper.wp
    simp [go_sem,e0',c1]
  ·cases ho
   have e3:a'.tmps.getD 6 undef = .slice a n c:=hp 3 (od (by kernel_rfl)) (.inr (by decide))
   have e3':a'.tmps[6]?.getD undef = .slice a n c:=by simpa using e3
   have z6:L 6=false:=hre 6 (by kernel_rfl)
   have hb:=hI z6
   have hbw:Bel w x:=X.out.2.2.2.trans (hb.mono X.out.2.2.2.size)
   refine ⟨wno rfl,op_callR (f:=165) (args:=#[.slice a n c]) (by simp [execOp,resolve,Deferred.ofValue,invoke,Act.eval,e3']) (C'.out x (HK.out.below hbw)) ?_⟩
   rintro e x1 ⟨⟨vs,rfl,hG,hTi⟩,q⟩
   have hs:=hb.size
   have hsW:=X.out.1
   have hb1:Bel W x1:=hb.trans (q.mono hs)
   have hG':IzG (w.heap.size+2) (.slice (some ⟨x.heap.size,0,none⟩) n n) vs ls x1 :=
    ⟨⟨hG.outer.1,hG.outer.2.imp id fun ⟨g,cap,cur,h1,h2,h3⟩=>⟨g,cap,cur,h1,Nat.le_trans (by omega) h2,h3⟩⟩,hG.len,fun i hi=>(hG.row i hi).mono (by omega),hG.apart⟩
   exact ⟨_,rfl,_,y,rfl,fun h=>absurd rfl h,(fun _=>hb1),fun u hu=>⟨x.heap.size,vs,hu (fun h=>by cases h),by rw [hu (fun h=>by cases h)];exact hG',hTi,hb1⟩⟩
  ·cases ho
   have e1:a'.tmps.getD 4 undef = .int .i64 f:=hp 1 (od (by kernel_rfl)) (.inr (by decide))
   obtain ⟨g,vs,e4,hG,hTi,hb⟩:∃ g vs,a'.tmps.getD 7 undef = .slice (some ⟨g,0,none⟩) n n∧IzG (w.heap.size+2) (a'.tmps.getD 7 undef) vs ls x∧Tight vs∧Bel W x:=hp 4 (od (by kernel_rfl)) (.inl rfl)
   have e1':a'.tmps[4]?.getD undef = .int .i64 f:=by simpa using e1
   have e4':a'.tmps[7]?.getD undef = .slice (some ⟨g,0,none⟩) n n:=by simpa using e4
   rw [e4] at hG
   refine ⟨wno rfl,Oper.wp_mono (K:=fun z x'=>z=a'.put (some 8) (.agg #[.int .i64 f,.slice (some ⟨g,0,none⟩) n n])∧x'=x) ?_ ?_⟩
   ·rintro z x' ⟨rfl,rfl⟩
    exact ⟨_,y,rfl,fun _ _=>rfl,hI' 5 (by decide),fun u hu=>⟨g,vs,hu (fun h=>by cases h),hG,hTi,hb⟩⟩
   ·unfold Oper.wp
    simp [go_sem,e1',e4']
  ·cases ho
   obtain ⟨g,vs,e5,hG,hTi,hb⟩:∃ g vs,a'.tmps.getD 8 undef = .agg #[.int .i64 f,.slice (some ⟨g,0,none⟩) n n]∧IzG (w.heap.size+2) (.slice (some ⟨g,0,none⟩) n n) vs ls x∧Tight vs∧Bel W x:=hp 5 (od (by kernel_rfl)) (.inl rfl)
   have b2:Boxed x (w.heap.size+1) #[.int .i64 0,.slice none 0 0] 44:=X.out.2.2.1.below X.out.2.2.1.under hb
   have bw:Bel w x:=X.out.2.2.2.trans (hb.mono X.out.2.2.2.size)
   exact ⟨wno rfl,wp_store_row 44 (.tmp 2) (.tmp 8) rfl (w.heap.size+1) #[.int .i64 f,.slice (some ⟨g,0,none⟩) n n] s2 e5 _ _ b2 (by kernel_rfl) rfl (by simp [Value.oneCell']) ⟨undef,y,rfl,fun _ h=>absurd rfl h,(fun z=>by simp at z),fun _ _=>⟨g,vs,setRow_heap _ _ _ _ _ _ b2,hG.other fun k hk _=>setRow_other _ _ _ _ (by omega),hTi,below_setRow bw (by omega) _⟩⟩⟩
 case last =>
  intro L a' y x hall hkp hI hp
  obtain ⟨g,vs,b,hG,hTi,hb⟩:∃ g vs,Boxed x (w.heap.size+1) #[.int .i64 f,.slice (some ⟨g,0,none⟩) n n] 44∧IzG (w.heap.size+2) (.slice (some ⟨g,0,none⟩) n n) vs ls x∧Tight vs∧Bel w x:=hp 6 (by decide) (by decide)
  have s2:a'.tmps.getD 2 undef = .pointer (some ⟨w.heap.size+1,0,none⟩):=hkp.slot 2 (by kernel_rfl)
  have kd:=hkp.defers
  clear hp hI
  go_wp2
  exact bodyPost_ret (results_cell_row Tryz.results99 _ _ (w.heap.size+1) _ _ _ _ s2 b Tryz.underlying44 rfl (by kernel_rfl)) kd (by first|exact ⟨⟨_,rfl,vs,hG,hTi⟩,hb⟩|exact ⟨⟨_,vs,rfl,hG,hTi⟩,hb⟩)
open Go.RowKit Go.Shelf
theorem implCountL (r:Rw) (a:Option Addr) (c:Nat) (w:World) (hB:r.big≤1048576) (h:Hid (IzAt w a r.lists)) :
 Calls Tryz.prog 205 #[r.val a c] w fun e w'=>e = .returned (.int .i64 (izSum r.lists r.lists.length))∧Bel w w':=implCntRw r a c w hB h
theorem implNotIt (r:It) (w:World) :
 Calls Tryz.prog 267 #[r.val] w fun e w'=>e = .returned (.bool (!r.ok))∧Bel w w':=by
 have C:=fun w=>implItem r w
 generalize r.ok=ok at C ⊢
 obtain ⟨i,p,s⟩:=r
 simp only [It.val] at C ⊢
 have C':Hid _:=C
 clear C
 have hB:Hid (Bel w (w.alloc (.cells #[.int .i64 i,.int .i64 p,.int .i64 s] 52))):=(Below.refl _ _).alloc nlr _
 go_enter Tryz.func267,Tryz.ntmps267
 go_wp2_with fail
 refine (C'.out _).mono ?_
 rintro e w1 ⟨rfl,b1⟩
 have B:Hid (Bel w w1):=hB.out.trans (b1.mono hB.out.size)
 clear b1 hB
 go_wp2
 go_ret
 exact ⟨rfl,B.out⟩
theorem notItTells (w:World):ItTells w (fun _=>False) 267 #[] #[] (fun _=>True) (fun r => !r.ok) :=
 ⟨enters_of Tryz.func267 (by kernel_rfl) rfl,fun _ h=>h.elim,fun W r _ _=>implNotIt r W⟩
def eachK (ls:List (List It)) (k:Nat):Bool:=(ls.take k).all fun l=>l.all It.ok
theorem eachK_succ {ls:List (List It)} {k:Nat} (h:k<ls.length):eachK ls (k+1)=(eachK ls k&&(izAt ls k).all It.ok):=by
 unfold eachK
 rw [List.take_succ_eq_append_getElem h,List.all_append,izAt_lt h]
 simp
theorem eachK_hit {ls:List (List It)} {k:Nat} (h:k<ls.length) (g:(izAt ls k).all It.ok=false):eachK ls ls.length=false:=by
 unfold eachK
 rw [List.take_length,List.all_eq_false]
 refine ⟨_,List.getElem_mem h,?_⟩
 rw [izAt_lt h] at g
 simp [g]
theorem eachK_all (r:Rw):eachK r.lists r.lists.length=r.all.all It.ok:=by
 unfold eachK Rw.all
 rw [List.take_length,List.all_flatten]
theorem implEachIt (r:Rw) (a:Option Addr) (c:Nat) (w:World) (hB:r.big≤1048576) (h:Hid (IzAt w a r.lists)) :
 Calls Tryz.prog 218 #[r.val a c] w fun e w'=>e = .returned (.bool (r.all.all It.ok))∧Bel w w':=by
 obtain ⟨hT,-,hin⟩:=Rw.small hB
 rw [← eachK_all]
 obtain ⟨f,ls⟩:=r
 simp only [Rw.val] at h hT hin ⊢
 clear hB
 have Hin:Hid (∀ k,k<ls.length→(izAt ls k).length≤1048576):=hin
 have Hit:Hid (∀ k,k<ls.length→(izAt ls k).all It.ok=false→eachK ls ls.length=false):=fun k hk g=>eachK_hit hk g
 obtain ⟨len,hlen⟩:∃ n,ls.length=n:=⟨_,rfl⟩
 rw [hlen] at hT Hin Hit ⊢
 have Hlen:Hid (ls.length=len):=hlen
 clear hlen hin
 obtain ⟨W,hW⟩:∃ W,W=w.alloc (.cells #[.int .i64 f,.slice a len c] 44):=⟨_,rfl⟩
 have X:Hid (IzAt W a ls∧Bel w W∧Boxed W w.heap.size #[.int .i64 f,.slice a len c] 44):=by
  rw [hW]
  exact ⟨h.out.alloc _,(Below.refl _ _).alloc nlr _,Boxed.new _ _ _⟩
 have HW:Hid (W=_):=hW
 clear hW h
 go_enter Tryz.func218,Tryz.ntmps218
 go_wp2
 rw [← HW.out]
 have c1:W.cell? ⟨w.heap.size,1,none⟩=some (.slice a len c):=X.out.2.2.cell 1 rfl
 go_wp2
 clear c1
 go_loopw [8] (fun i wr=>∃ k:Nat,k≤len∧i = .int .i64 k∧Hid (eachK ls k=true)∧Hid (Bel W wr)) (fun i _=>len-(intOf i).toNat)
 case atStart=>exact ⟨0,Nat.zero_le _,rfl,rfl,Below.refl _ _⟩
 case round =>
  obtain ⟨k,hk,rfl,Hg,Hb⟩:=hrel
  by_cases hlt:k<len
  ·have hkl:k<ls.length:=by rw [Hlen.out];exact hlt
   obtain ⟨b,off,ak,ck,ha,hb,hc,hr,-⟩:=X.out.1.below Hb.out k hkl
   subst ha
   have hlt':(k:Int)<(len:Int):=by omega
   have C:=implContainsT ak ck (izAt ls k) 267 #[] #[] (fun _=>False) (fun _=>True) (fun r => !r.ok) wr (Hin.out k hlt) hr (fun _ _=>trivial) (notItTells wr)
   have Ha:Hid ((!((izAt ls k).any fun r => !r.ok))=(izAt ls k).all It.ok):=by
    show _=_
    rw [List.all_eq_not_any_not]
   have Hs:=eachK_succ hkl
   have Hh:=Hit.out k hlt
   rw [Hg.out,← Ha.out] at Hs
   rw [← Ha.out] at Hh
   generalize ((izAt ls k).any fun r => !r.ok)=z at C Hs Hh
   generalize (izAt ls k).length=n at C hc
   have HS:Hid _:=Hs
   have HH:Hid _:=Hh
   clear Hs Hh Ha hr
   go_wp2_with fail
   refine C.mono ?_
   rintro e w1 ⟨rfl,b1⟩
   have B:Hid (Bel W w1):=Hb.out.trans (b1.mono Hb.out.size)
   clear b1 C hc
   cases z
   ·go_wp2
    go_roundw
    case rel=>exact ⟨k+1,by omega,by go_num,by show eachK ls (k+1)=true;rw [HS.out];rfl,B⟩
    case measure=>simp [intOf];omega
   ·go_wp2
    go_ret
    exact ⟨ret_bool (by rw [HH.out rfl]),X.out.2.1.trans (B.out.mono X.out.2.1.size)⟩
  ·obtain rfl:k=len:=by omega
   go_wp2
   go_ret
   exact ⟨ret_bool Hg.out.symm,X.out.2.1.trans (Hb.out.mono X.out.2.1.size)⟩
open Go.RowKit Go.Maps
def noElemR (_:Value):Option (DataW Unit×List MemPlace):=some (.lit (.bool true),[])
def IdsIn (w:World) (b:Nat) (L:List Int):Prop :=
 ∃ D:DataW Unit,w.ownsMap Tryz.prog 2 noElemR b L.length D∧(∀ x,has D (.int .i64 x)=decide (x∈L))∧(Maps.size D=L.length↔L.Nodup)
theorem IdsIn.lt {w:World} {b:Nat} {L:List Int} (h:IdsIn w b L):b<w.heap.size:=by
 obtain ⟨D,o,_⟩:=h
 exact o.lt
theorem IdsIn.kept {w w':World} {b:Nat} {L:List Int} (h:IdsIn w b L) (hb:w'.heap[b]? = w.heap[b]?):IdsIn w' b L:=by
 obtain ⟨D,⟨es,clock,h1,h2⟩,hg⟩:=h
 exact ⟨D,⟨es,clock,hb.trans h1,h2⟩,hg⟩
theorem IdsIn.made (w:World):IdsIn (w.alloc (.map #[] 0)) w.heap.size [] :=
 ⟨_,World.ownsMap_made w _ _ _,fun _=>rfl,by simp [Maps.size]⟩
theorem IdsIn.store {w:World} {b:Nat} {L:List Int} (h:IdsIn w b L) (hn:L.length<maxLen) {x:Int} (wx:(Lit.int .i64 x).wf=true) (v:Value) :
 ∃ w',(Instr.mapUpdate 289 (.map (some b)) (.int .i64 x) v).run Tryz.prog w = .ok () w'∧IdsIn w' b (L++[x])∧w.grownBy w' (some b):=by
 obtain ⟨D,o,hg,hs⟩:=h
 have hk:keyOf Tryz.prog 2 (.int .i64 x)=some (.int .i64 x):=keyOf_int_mk Tryz.underlying2 wx
 have hle:=o.size_le
 obtain ⟨w',hrun,o',gr⟩:=o.update (int_keyed Tryz.underlying2) Tryz.underlying289 hn hk (val:=v) (d:=.lit (.bool true)) (ps:=[]) rfl
 have hz:=size_put (k:=.int .i64 x) (o.tidy (int_keyed Tryz.underlying2)) (DataW.lit (.bool true))
 rw [hg x] at hz
 refine ⟨w',hrun,⟨_,by rw [List.length_append];exact o',fun y=>?_,?_⟩,gr⟩
 ·by_cases e:y=x
  ·subst e
   rw [has_put_same o.isMap ((int_keyed Tryz.underlying2).key hk)]
   simp
  ·rw [has_put_other (by intro e2;exact e (by simpa using e2)),hg y]
   simp [e]
 ·rw [hz,List.length_append,List.length_singleton,List.nodup_append]
  by_cases hm:x∈L
  ·rw [decide_eq_true hm,if_pos rfl]
   constructor
   ·intro e;omega
   ·intro e
    exact absurd rfl (e.2.2 x hm x (by simp))
  ·rw [decide_eq_false hm,if_neg (by simp)]
   constructor
   ·intro e
    refine ⟨hs.1 (by omega),by simp,?_⟩
    intro y hy z hz' e2
    rw [List.mem_singleton.1 hz'] at e2
    exact hm (e2▸hy)
   ·rintro ⟨e,_⟩
    rw [hs.2 e]
theorem implAddR (b:Nat) (L:List Int) (x:Int) (w:World) (hn:L.length≤1048576) (wx:(Lit.int .i64 x).wf=true) (h:Hid (IdsIn w b L)) :
 Calls Tryz.prog 268 #[.map (some b),.int .i64 x] w fun e w'=>e = .returned (.tuple #[])∧IdsIn w' b (L++[x])∧w.grownBy w' (some b):=by
 obtain ⟨w1,hrun,h1,g1⟩:=h.out.store (by unfold maxLen;omega) wx (.agg #[])
 have H1:Hid (IdsIn w1 b (L++[x])∧w.grownBy w1 (some b)):=⟨h1,g1⟩
 clear h1 g1
 go_enter Tryz.func268,Tryz.ntmps268
 go_wp2
 refine bodyPost_end (v:=.tuple #[]) ?_ rfl ?_
 ·simp [results,Tryz.results268,go_sem]
 ·exact ⟨rfl,H1.out⟩
theorem not_ids {w:World} {b:Nat} {L:List Int} (h:IdsIn w b L) {off:Nat} {v:Value} (c:∃ o,w.cell? ⟨o,off,none⟩=some v∧o=b):False:=by
 obtain ⟨D,⟨es,clock,h1,_⟩,_⟩:=h
 obtain ⟨o,hc,rfl⟩:=c
 simp [World.cell?,h1] at hc
theorem ItsAt.asideR {w w':World} {a:Option Addr} {l:List It} {b:Nat} {L:List Int} (h:ItsAt w a l) (hm:IdsIn w b L) (hg:w.grownBy w' (some b)):ItsAt w' a l:=by
 intro k hk
 obtain ⟨o,off,e,ho,c0,c1,c2⟩:=h k hk
 have hne:o≠b:=fun e=>not_ids hm ⟨o,c0,e⟩
 exact ⟨o,off,e,Nat.lt_of_lt_of_le ho hg.size,hg.cell c0 (by simpa using hne),hg.cell c1 (by simpa using hne),hg.cell c2 (by simpa using hne)⟩
theorem IzAt.asideR {w w':World} {a:Option Addr} {ls:List (List It)} {b:Nat} {L:List Int} (h:IzAt w a ls) (hm:IdsIn w b L) (hg:w.grownBy w' (some b)):IzAt w' a ls:=by
 intro k hk
 obtain ⟨o,off,ak,ck,e,ho,hc,hr,hl⟩:=h k hk
 have hne:o≠b:=fun e=>not_ids hm ⟨o,hc,e⟩
 exact ⟨o,off,ak,ck,e,Nat.lt_of_lt_of_le ho hg.size,hg.cell hc (by simpa using hne),hr.asideR hm hg,hl⟩
theorem IdsIn.len {w:World} {b:Nat} {L:List Int} (h:IdsIn w b L):∃ n:Nat,n≤L.length∧(n=L.length↔L.Nodup)∧∀ ty,(Builtin.len_ #[289] ty #[.map (some b)]).run Tryz.prog w = .ok (.int .i64 n) w:=by
 obtain ⟨D,o,_,hs⟩:=h
 exact ⟨Maps.size D,o.size_le,hs,fun ty=>o.len Tryz.underlying289 ty⟩
theorem pre_len_le {r:Rw} {i:Nat} (h:i<r.lists.length) (k:Nat):(r.pre i k).length≤r.all.length:=by
 obtain ⟨t,ht⟩:=pre_all h k
 rw [ht,List.length_append]
 omega
structure IdR (w:World) (f:Int) (a:Option Addr) (n c:Nat) (r:Rw) (M:Nat) (L:List Int) (wr:World):Prop where
 ids:IdsIn wr M L
 here:IzAt wr a r.lists
 box:Boxed wr w.heap.size #[.int .i64 f,.slice a n c] 44
 bel:Bel w wr
 far:w.heap.size<M
section
variable {w:World} {f:Int} {a:Option Addr} {n c:Nat} {r:Rw} {M:Nat} {L:List Int} {wr wd:World} {x:Int}
theorem IdR.alloc (h:IdR w f a n c r M L wr) (o:Obj):IdR w f a n c r M L (wr.alloc o) :=
 ⟨h.ids.kept (Below.heap_alloc _ _ _ h.ids.lt),h.here.alloc _,h.box.more _,h.bel.alloc h.bel.size _,h.far⟩
theorem IdR.add (h:IdR w f a n c r M L wr) (i:IdsIn wd M (L++[x])) (g:wr.grownBy wd (some M)):IdR w f a n c r M (L++[x]) wd :=
 ⟨i,h.here.asideR h.ids g,by have:=h.far;exact (g.block _ h.box.under (by simp;omega)).trans h.box,h.bel.grown g h.bel.size (by rintro j e;cases e;have:=h.far;omega),h.far⟩
end
theorem implIdsDiffer (r:Rw) (a:Option Addr) (c:Nat) (w:World) (hB:r.big≤1048576) (hok:r.all.all It.ok=true) (h:Hid (IzAt w a r.lists)) :
 Calls Tryz.prog 219 #[r.val a c] w fun e w'=>e = .returned (.bool (decide (r.all.map It.id).Nodup))∧Bel w w':=by
 obtain ⟨hT,hS,hin⟩:=Rw.small hB
 have C:=fun w h=>implCountL r a c w hB h
 rw [← all_length] at C hS
 have Hids:Hid (∀ i k,i<r.lists.length→k<(izAt r.lists i).length→(Lit.int .i64 (itAt (izAt r.lists i) k).id).wf=true):=by
  intro i k hi hk
  have hm:itAt (izAt r.lists i) k∈r.all:=by
   obtain ⟨t,ht⟩:=pre_all hi (k+1)
   rw [ht,pre_step hk]
   simp
  have:=List.all_eq_true.1 hok _ hm
  unfold It.ok at this
  simp only [Bool.and_eq_true,inB_true] at this
  exact WalkArith.wf_i64 (by omega)
 have Hpl:Hid (∀ i k,i<r.lists.length→(r.pre i k).length≤1048576):=fun i k hi=>Nat.le_trans (pre_len_le hi k) hS
 have Hin:Hid (∀ k,k<r.lists.length→(izAt r.lists k).length≤1048576):=hin
 obtain ⟨R,hR⟩:∃ R,decide (r.all.map It.id).Nodup=R:=⟨_,rfl⟩
 rw [hR]
 have Fin:Hid (∀ m:Nat,(m=((r.pre r.lists.length 0).map It.id).length↔((r.pre r.lists.length 0).map It.id).Nodup)→decide ((m:Int)=(r.all.length:Int))=R):=by
  intro m hm
  rw [pre_end,List.length_map] at hm
  rw [← hR,Bool.eq_iff_iff,decide_eq_true_iff,decide_eq_true_iff,← hm]
  omega
 obtain ⟨len,hlen⟩:∃ n,r.lists.length=n:=⟨_,rfl⟩
 unfold Rw.val at C ⊢
 rw [hlen] at hT C Fin Hids Hpl Hin ⊢
 have Hlen:Hid (r.lists.length=len):=hlen
 generalize r.most=f at C ⊢
 generalize (r.all.length:Int)=cnt at C Fin
 have C':Hid _:=C
 clear hlen hB hin hR C hok hS
 obtain ⟨W,hW⟩:∃ W,W=(w.alloc (.cells #[.int .i64 f,.slice a len c] 44)).alloc (.map #[] 0):=⟨_,rfl⟩
 have X:Hid (IdR w f a len c r (w.heap.size+1) ((r.pre 0 0).map It.id) W):=by
  rw [hW]
  refine ⟨?_,(h.out.alloc _).alloc _,(Boxed.new w _ _).more _,((Below.refl _ _).alloc nlr _).alloc (by simp) _,by omega⟩
  rw [pre_zero]
  have:=IdsIn.made (w.alloc (.cells #[.int .i64 f,.slice a len c] 44))
  simpa using this
 have HW:Hid (W=_):=hW
 clear hW h
 have hmm := @run_makeMap Tryz.prog
 go_enter Tryz.func219,Tryz.ntmps219
 go_wp2
 rw [← HW.out]
 have c1:W.cell? ⟨w.heap.size,1,none⟩=some (.slice a len c):=X.out.box.cell 1 rfl
 go_wp2
 clear c1
 go_loopw [12] (fun i wr=>∃ k:Nat,k≤len∧i = .int .i64 k∧Hid (IdR w f a len c r (w.heap.size+1) ((r.pre k 0).map It.id) wr)) (fun i _=>len-(intOf i).toNat)
 case atStart=>exact ⟨0,Nat.zero_le _,rfl,X.out⟩
 case round =>
  obtain ⟨k,hk,rfl,HK⟩:=hrel
  clear X
  by_cases hlt:k<len
  ·have hkl:k<r.lists.length:=by rw [Hlen.out];exact hlt
   have Hat:Hid (∀ wr L,IdR w f a len c r (w.heap.size+1) L wr→∃ b off ak ck,a=some ⟨b,off,none⟩∧wr.cell? ⟨b,off+k,none⟩=some (.slice ak (izAt r.lists k).length ck)):=fun wr L g=>by
    obtain ⟨b,off,ak,ck,ha,_,hc,_⟩:=g.here k hkl
    exact ⟨b,off,ak,ck,ha,hc⟩
   obtain ⟨b,off,ak,ck,ha,hb,hc,hr,-⟩:=HK.out.here k hkl
   subst ha
   have hlt':(k:Int)<(len:Int):=by omega
   have hn:=Hin.out k hlt
   have Hid1:=Hids.out k
   have Hp1:=Hpl.out k
   have Hs:Hid (∀ q,q<(izAt r.lists k).length→(r.pre k (q+1)).map It.id=(r.pre k q).map It.id++[(itAt (izAt r.lists k) q).id]):=fun q hq=>by
    rw [pre_step hq,List.map_append]
    rfl
   have Hnx:Hid (r.pre (k+1) 0=r.pre k (izAt r.lists k).length):=pre_next hkl
   obtain ⟨n,hnl⟩:∃ n,(izAt r.lists k).length=n:=⟨_,rfl⟩
   rw [hnl] at hc hn Hs Hnx Hid1
   have Hnl:Hid ((izAt r.lists k).length=n):=hnl
   have HI:Hid _:=Hid1
   have HP:Hid _:=Hp1
   have HR:Hid (ItsAt wr ak (izAt r.lists k)):=hr
   clear hnl Hid1 Hp1 Hat hr
   obtain ⟨wk,hwk⟩:∃ wk,wk=wr:=⟨_,rfl⟩
   rw [← hwk] at HR
   have HK0:Hid (IdR w f (some ⟨b,off,none⟩) len c r (w.heap.size+1) ((r.pre k 0).map It.id) wr∧ItsAt wr ak (izAt r.lists k)):=⟨HK.out,by rw [← hwk];exact HR.out⟩
   clear HK HR hwk
   go_wp2
   clear hc hb
   go_loopw [18] (fun j wr=>∃ q:Nat,q≤n∧j = .int .i64 q∧Hid (IdR w f (some ⟨b,off,none⟩) len c r (w.heap.size+1) ((r.pre k q).map It.id) wr∧ItsAt wr ak (izAt r.lists k))) (fun j _=>n-(intOf j).toNat)
   case atStart=>exact ⟨0,Nat.zero_le _,rfl,HK0.out⟩
   case round =>
    obtain ⟨q,hq,rfl,HQ⟩:=hrel
    clear HK0
    by_cases hql:q<n
    ·have hqn:q<(izAt r.lists k).length:=by rw [Hnl.out];exact hql
     obtain ⟨b2,off2,ha2,hb2,-⟩:=HQ.out.2 q hqn
     subst ha2
     obtain ⟨e0,e1,e2⟩:=HQ.out.2.cells hqn
     have hs:=Hs.out q hql
     have wf:=HI.out q hlt hql
     have hL:=HP.out q hlt
     have hql':(q:Int)<(n:Int):=by omega
     generalize itAt (izAt r.lists k) q=x at e0 e1 e2 hs wf
     obtain ⟨x0,x1,x2⟩:=x
     simp only [] at e0 e1 e2 hs wf
     rw [← List.length_map (f:=It.id)] at hL
     have AD:=fun W1 h=>implAddR (w.heap.size+1) ((r.pre k q).map It.id) x0 W1 hL wf h
     rw [← hs] at AD
     have AD':Hid _:=AD
     have Hs2:Hid _:=hs
     have H3:Hid (IdR w f (some ⟨b,off,none⟩) len c r (w.heap.size+1) ((r.pre k q).map It.id) (wr.alloc (.cells #[.int .i64 x0,.int .i64 x1,.int .i64 x2] 52))∧ItsAt (wr.alloc (.cells #[.int .i64 x0,.int .i64 x1,.int .i64 x2] 52)) (some ⟨b2,off2,none⟩) (izAt r.lists k)):=⟨HQ.out.1.alloc _,HQ.out.2.alloc _⟩
     clear AD hs hL wf
     go_wp2_with fail
     refine (AD'.out _ H3.out.1.ids).mono ?_
     rintro e5 w5 ⟨rfl,m5,g5⟩
     have H5:Hid (IdR w f (some ⟨b,off,none⟩) len c r (w.heap.size+1) ((r.pre k (q+1)).map It.id) w5∧ItsAt w5 (some ⟨b2,off2,none⟩) (izAt r.lists k)):=by
      rw [Hs2.out] at m5 ⊢
      exact ⟨H3.out.1.add m5 g5,H3.out.2.asideR H3.out.1.ids g5⟩
     clear m5 g5 H3 HQ e0 e1 e2
     go_wp2
     go_roundw
     case rel=>exact ⟨q+1,by omega,by go_num,H5⟩
     case measure=>simp [intOf];omega
    ·obtain rfl:q=n:=by omega
     go_wp2
     go_roundw
     case rel =>
      refine ⟨k+1,by omega,by go_num,?_⟩
      show IdR _ _ _ _ _ _ _ _ _
      rw [Hnx.out]
      exact HQ.out.1
     case measure=>simp [intOf];omega
  ·obtain rfl:k=len:=by omega
   obtain ⟨m,hm1,hm2,hrun⟩:=HK.out.ids.len
   have hf:=Fin.out m hm2
   have FF:Hid _:=hf
   have e0:wr.cell? ⟨w.heap.size,0,none⟩=some (.int .i64 f):=HK.out.box.cell 0 rfl
   have e1:wr.cell? ⟨w.heap.size,1,none⟩=some (.slice a k c):=HK.out.box.cell 1 rfl
   clear hm1 hm2 hf
   go_wp2_with fail
   refine (C'.out _ HK.out.here).mono ?_
   rintro e w1 ⟨rfl,b1⟩
   have B:Hid (Bel w w1):=HK.out.bel.trans (b1.mono HK.out.bel.size)
   clear b1 e0 e1
   go_wp2
   go_ret
   exact ⟨ret_bool FF.out,B.out⟩
theorem Rw.ok_asks (r:Rw):r.ok=(inB 1 200 r.most&&(inB 1 16 (r.lists.length:Int)&&(decide ((izSum r.lists r.lists.length:Int)≤r.most)&&(r.all.all It.ok&&decide (r.all.map It.id).Nodup)))):=by
 have e:=all_length r
 unfold Rw.ok
 rw [← e]
 have e2:decide (1≤r.lists.length∧r.lists.length≤16)=inB 1 16 (r.lists.length:Int):=by
  rw [Bool.eq_iff_iff,inB_true,decide_eq_true_iff]
  omega
 rw [e2]
 generalize decide (r.all.map It.id).Nodup=z1
 generalize r.all.all It.ok=z2
 generalize decide ((r.all.length:Int)≤r.most)=z3
 cases z1<;>cases z2<;>cases z3<;>simp
theorem implRowsOk (r:Rw) (a:Option Addr) (c:Nat) (w:World) (hB:r.big≤1048576) (h:Hid (IzAt w a r.lists)) :
 Calls Tryz.prog 153 #[r.val a c] w fun e w'=>e = .returned (.bool r.ok)∧Below w.heap.size w w':=by
 have Hok:Hid _:=r.ok_asks
 have A1:=fun (w:World) (B:Nat) (hB:B=w.heap.size)=>implFromOne 200 r.most B w hB
 have A2:=fun (w:World) (B:Nat) (hB:B=w.heap.size)=>implFromOne 16 (r.lists.length:Int) B w hB
 have A3:=fun (w:World) h=>implCountL r a c w hB h
 have A4:=fun (w:World) h=>implEachIt r a c w hB h
 have A5:=fun (w:World) hok h=>implIdsDiffer r a c w hB hok h
 unfold Rw.val at A3 A4 A5 ⊢
 generalize r.ok=ok at Hok ⊢
 obtain ⟨hT,-,-⟩:=Rw.small hB
 generalize r.lists.length=n at A1 A2 A3 A4 A5 hT Hok ⊢
 generalize (izSum r.lists n:Int)=cnt at A3 Hok
 generalize decide (r.all.map It.id).Nodup=b5 at A5 Hok
 generalize r.all.all It.ok=b4 at A4 A5 Hok
 generalize inB 1 200 r.most=b1 at A1 Hok
 generalize inB 1 16 (n:Int)=b2 at A2 Hok
 generalize r.most=f at A1 A3 A4 A5 Hok ⊢
 have A1':Hid _:=A1
 have A2':Hid _:=A2
 have A3':Hid _:=A3
 have A4':Hid _:=A4
 have A5':Hid _:=A5
 clear A1 A2 A3 A4 A5 hB
 obtain ⟨S,hS⟩:∃ S,S=w.heap.size:=⟨_,rfl⟩
 have HS:Hid (S=w.heap.size):=hS
 have X:Hid (IzAt (w.alloc (.cells #[.int .i64 f,.slice a n c] 44)) a r.lists∧Boxed (w.alloc (.cells #[.int .i64 f,.slice a n c] 44)) S #[.int .i64 f,.slice a n c] 44∧Below S w (w.alloc (.cells #[.int .i64 f,.slice a n c] 44))):=by
  rw [hS]
  exact ⟨h.out.alloc _,Boxed.new _ _ _,(Below.refl _ _).alloc nlr _⟩
 rw [← hS]
 go_enter Tryz.func153,Tryz.ntmps153
 go_wp2_with fail
 rw [← hS]
 generalize w.alloc (.cells #[.int .i64 f,.slice a n c] 44)=w0 at X ⊢
 clear hS h
 have c0:w0.cell? ⟨S,0,none⟩=some (.int .i64 f):=X.out.2.1.cell 0 rfl
 have hl:S<w0.heap.size:=X.out.2.1.under
 cases b1
 ·first|(go_region_with (first|(go_at_call_of 133 (Value.int IntKind.i64 200);refine (A1'.out w0.drew w0.heap.size rfl).mono ?_;rintro e w1 ⟨rfl,hw1⟩;have X1:Hid (IzAt w1 a r.lists∧Boxed w1 S #[.int .i64 f,.slice a n c] 44∧Below S w w1):=(by rw [hw1];exact ⟨X.out.1.drew.alloc _,Boxed.more (w:=w0.drew) X.out.2.1 _,X.out.2.2.drew.alloc (Nat.le_of_lt hl) _⟩);have c1:w1.cell? ⟨S,1,none⟩=some (.slice a n c):=X1.out.2.1.cell 1 rfl;have hl1:S<w1.heap.size:=X1.out.2.1.under;clear hw1)))|fail
  all_goals (
   go_wp2
   go_ret
   exact ⟨ret_bool (by rw [Hok.out];simp),X1.out.2.2⟩)
 cases b2
 ·first|(go_region_with (first|(go_at_call_of 133 (Value.int IntKind.i64 200);refine (A1'.out w0.drew w0.heap.size rfl).mono ?_;rintro e w1 ⟨rfl,hw1⟩;have X1:Hid (IzAt w1 a r.lists∧Boxed w1 S #[.int .i64 f,.slice a n c] 44∧Below S w w1):=(by rw [hw1];exact ⟨X.out.1.drew.alloc _,Boxed.more (w:=w0.drew) X.out.2.1 _,X.out.2.2.drew.alloc (Nat.le_of_lt hl) _⟩);have c1:w1.cell? ⟨S,1,none⟩=some (.slice a n c):=X1.out.2.1.cell 1 rfl;have hl1:S<w1.heap.size:=X1.out.2.1.under;clear hw1)|(go_at_call_of 133 (Value.int IntKind.i64 16);refine (A2'.out _ _ (by simp)).mono ?_;rintro e w2 ⟨rfl,hw2⟩;have X2:Hid (IzAt w2 a r.lists∧Boxed w2 S #[.int .i64 f,.slice a n c] 44∧Below S w w2):=(by rw [hw2];exact ⟨X1.out.1.alloc _,X1.out.2.1.more _,X1.out.2.2.alloc (Nat.le_of_lt X1.out.2.1.under) _⟩);have d0:w2.cell? ⟨S,0,none⟩=some (.int .i64 f):=X2.out.2.1.cell 0 rfl;have d1:w2.cell? ⟨S,1,none⟩=some (.slice a n c):=X2.out.2.1.cell 1 rfl;clear hw2)))|fail
  all_goals (
   go_wp2
   go_ret
   exact ⟨ret_bool (by rw [Hok.out];simp),X2.out.2.2⟩)
 by_cases hc:cnt≤f
 rotate_left
 ·rw [decide_eq_false hc] at Hok
  have hc':decide (cnt≤f)=false:=decide_eq_false hc
  first|(go_region_with (first|(go_at_call_of 133 (Value.int IntKind.i64 200);refine (A1'.out w0.drew w0.heap.size rfl).mono ?_;rintro e w1 ⟨rfl,hw1⟩;have X1:Hid (IzAt w1 a r.lists∧Boxed w1 S #[.int .i64 f,.slice a n c] 44∧Below S w w1):=(by rw [hw1];exact ⟨X.out.1.drew.alloc _,Boxed.more (w:=w0.drew) X.out.2.1 _,X.out.2.2.drew.alloc (Nat.le_of_lt hl) _⟩);have c1:w1.cell? ⟨S,1,none⟩=some (.slice a n c):=X1.out.2.1.cell 1 rfl;have hl1:S<w1.heap.size:=X1.out.2.1.under;clear hw1)|(go_at_call_of 133 (Value.int IntKind.i64 16);refine (A2'.out _ _ (by simp)).mono ?_;rintro e w2 ⟨rfl,hw2⟩;have X2:Hid (IzAt w2 a r.lists∧Boxed w2 S #[.int .i64 f,.slice a n c] 44∧Below S w w2):=(by rw [hw2];exact ⟨X1.out.1.alloc _,X1.out.2.1.more _,X1.out.2.2.alloc (Nat.le_of_lt X1.out.2.1.under) _⟩);have d0:w2.cell? ⟨S,0,none⟩=some (.int .i64 f):=X2.out.2.1.cell 0 rfl;have d1:w2.cell? ⟨S,1,none⟩=some (.slice a n c):=X2.out.2.1.cell 1 rfl;clear hw2)|(go_at_call 205;refine (A3'.out _ X2.out.1).mono ?_;rintro e w3 ⟨rfl,hb3⟩;have X3:Hid (IzAt w3 a r.lists∧Boxed w3 S #[.int .i64 f,.slice a n c] 44∧Below S w w3):=⟨X2.out.1.below hb3,X2.out.2.1.below X2.out.2.1.under hb3,X2.out.2.2.trans (hb3.mono (Nat.le_of_lt X2.out.2.1.under))⟩;have f3:w3.cell? ⟨S,0,none⟩=some (.int .i64 f):=X3.out.2.1.cell 0 rfl;have g3:w3.cell? ⟨S,1,none⟩=some (.slice a n c):=X3.out.2.1.cell 1 rfl;clear hb3)))|fail
  all_goals (
   go_wp2
   go_ret
   exact ⟨ret_bool (by rw [Hok.out];simp),X3.out.2.2⟩)
 rw [decide_eq_true hc] at Hok
 have hc':decide (cnt≤f)=true:=decide_eq_true hc
 cases b4
 ·first|(go_region_with (first|(go_at_call_of 133 (Value.int IntKind.i64 200);refine (A1'.out w0.drew w0.heap.size rfl).mono ?_;rintro e w1 ⟨rfl,hw1⟩;have X1:Hid (IzAt w1 a r.lists∧Boxed w1 S #[.int .i64 f,.slice a n c] 44∧Below S w w1):=(by rw [hw1];exact ⟨X.out.1.drew.alloc _,Boxed.more (w:=w0.drew) X.out.2.1 _,X.out.2.2.drew.alloc (Nat.le_of_lt hl) _⟩);have c1:w1.cell? ⟨S,1,none⟩=some (.slice a n c):=X1.out.2.1.cell 1 rfl;have hl1:S<w1.heap.size:=X1.out.2.1.under;clear hw1)|(go_at_call_of 133 (Value.int IntKind.i64 16);refine (A2'.out _ _ (by simp)).mono ?_;rintro e w2 ⟨rfl,hw2⟩;have X2:Hid (IzAt w2 a r.lists∧Boxed w2 S #[.int .i64 f,.slice a n c] 44∧Below S w w2):=(by rw [hw2];exact ⟨X1.out.1.alloc _,X1.out.2.1.more _,X1.out.2.2.alloc (Nat.le_of_lt X1.out.2.1.under) _⟩);have d0:w2.cell? ⟨S,0,none⟩=some (.int .i64 f):=X2.out.2.1.cell 0 rfl;have d1:w2.cell? ⟨S,1,none⟩=some (.slice a n c):=X2.out.2.1.cell 1 rfl;clear hw2)|(go_at_call 205;refine (A3'.out _ X2.out.1).mono ?_;rintro e w3 ⟨rfl,hb3⟩;have X3:Hid (IzAt w3 a r.lists∧Boxed w3 S #[.int .i64 f,.slice a n c] 44∧Below S w w3):=⟨X2.out.1.below hb3,X2.out.2.1.below X2.out.2.1.under hb3,X2.out.2.2.trans (hb3.mono (Nat.le_of_lt X2.out.2.1.under))⟩;have f3:w3.cell? ⟨S,0,none⟩=some (.int .i64 f):=X3.out.2.1.cell 0 rfl;have g3:w3.cell? ⟨S,1,none⟩=some (.slice a n c):=X3.out.2.1.cell 1 rfl;clear hb3)|(go_at_call 218;refine (A4'.out _ X3.out.1).mono ?_;rintro e w4 ⟨rfl,hb4⟩;have X4:Hid (IzAt w4 a r.lists∧Boxed w4 S #[.int .i64 f,.slice a n c] 44∧Below S w w4):=⟨X3.out.1.below hb4,X3.out.2.1.below X3.out.2.1.under hb4,X3.out.2.2.trans (hb4.mono (Nat.le_of_lt X3.out.2.1.under))⟩;have f4:w4.cell? ⟨S,0,none⟩=some (.int .i64 f):=X4.out.2.1.cell 0 rfl;have g4:w4.cell? ⟨S,1,none⟩=some (.slice a n c):=X4.out.2.1.cell 1 rfl;clear hb4)))|fail
  all_goals (
   go_wp2
   go_ret
   exact ⟨ret_bool (by rw [Hok.out];simp),X4.out.2.2⟩)
 first|(go_region_with (first|(go_at_call_of 133 (Value.int IntKind.i64 200);refine (A1'.out w0.drew w0.heap.size rfl).mono ?_;rintro e w1 ⟨rfl,hw1⟩;have X1:Hid (IzAt w1 a r.lists∧Boxed w1 S #[.int .i64 f,.slice a n c] 44∧Below S w w1):=(by rw [hw1];exact ⟨X.out.1.drew.alloc _,Boxed.more (w:=w0.drew) X.out.2.1 _,X.out.2.2.drew.alloc (Nat.le_of_lt hl) _⟩);have c1:w1.cell? ⟨S,1,none⟩=some (.slice a n c):=X1.out.2.1.cell 1 rfl;have hl1:S<w1.heap.size:=X1.out.2.1.under;clear hw1)|(go_at_call_of 133 (Value.int IntKind.i64 16);refine (A2'.out _ _ (by simp)).mono ?_;rintro e w2 ⟨rfl,hw2⟩;have X2:Hid (IzAt w2 a r.lists∧Boxed w2 S #[.int .i64 f,.slice a n c] 44∧Below S w w2):=(by rw [hw2];exact ⟨X1.out.1.alloc _,X1.out.2.1.more _,X1.out.2.2.alloc (Nat.le_of_lt X1.out.2.1.under) _⟩);have d0:w2.cell? ⟨S,0,none⟩=some (.int .i64 f):=X2.out.2.1.cell 0 rfl;have d1:w2.cell? ⟨S,1,none⟩=some (.slice a n c):=X2.out.2.1.cell 1 rfl;clear hw2)|(go_at_call 205;refine (A3'.out _ X2.out.1).mono ?_;rintro e w3 ⟨rfl,hb3⟩;have X3:Hid (IzAt w3 a r.lists∧Boxed w3 S #[.int .i64 f,.slice a n c] 44∧Below S w w3):=⟨X2.out.1.below hb3,X2.out.2.1.below X2.out.2.1.under hb3,X2.out.2.2.trans (hb3.mono (Nat.le_of_lt X2.out.2.1.under))⟩;have f3:w3.cell? ⟨S,0,none⟩=some (.int .i64 f):=X3.out.2.1.cell 0 rfl;have g3:w3.cell? ⟨S,1,none⟩=some (.slice a n c):=X3.out.2.1.cell 1 rfl;clear hb3)|(go_at_call 218;refine (A4'.out _ X3.out.1).mono ?_;rintro e w4 ⟨rfl,hb4⟩;have X4:Hid (IzAt w4 a r.lists∧Boxed w4 S #[.int .i64 f,.slice a n c] 44∧Below S w w4):=⟨X3.out.1.below hb4,X3.out.2.1.below X3.out.2.1.under hb4,X3.out.2.2.trans (hb4.mono (Nat.le_of_lt X3.out.2.1.under))⟩;have f4:w4.cell? ⟨S,0,none⟩=some (.int .i64 f):=X4.out.2.1.cell 0 rfl;have g4:w4.cell? ⟨S,1,none⟩=some (.slice a n c):=X4.out.2.1.cell 1 rfl;clear hb4)|(go_at_call 219;refine (A5'.out _ (by first|exact trivial|exact rfl) X4.out.1).mono ?_;rintro e w5 ⟨rfl,hb5⟩;have X5:Hid (IzAt w5 a r.lists∧Boxed w5 S #[.int .i64 f,.slice a n c] 44∧Below S w w5):=⟨X4.out.1.below hb5,X4.out.2.1.below X4.out.2.1.under hb5,X4.out.2.2.trans (hb5.mono (Nat.le_of_lt X4.out.2.1.under))⟩;have f5:w5.cell? ⟨S,0,none⟩=some (.int .i64 f):=X5.out.2.1.cell 0 rfl;have g5:w5.cell? ⟨S,1,none⟩=some (.slice a n c):=X5.out.2.1.cell 1 rfl;clear hb5)))|fail
 all_goals (
  go_wp2
  go_ret
  exact ⟨ret_bool (by rw [Hok.out];simp),X5.out.2.2⟩)
end Go.Proofs.YtgebghkcikmfaaaGreatDoor
