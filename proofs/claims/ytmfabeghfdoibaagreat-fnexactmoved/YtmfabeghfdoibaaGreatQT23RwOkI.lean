import Derived.Test.YtmfabeghfdoibaaGreatQT8NumUp
import Derived.Test.YtmfabeghfdoibaaGreatQT11RwFn
import Derived.Shelf.Abstract
import Derived.Test.YtmfabeghfdoibaaGreatQT22RwAll
import Derived.Maps.OwnSet
import Derived.Deep.RegionWith
set_option maxHeartbeats 6400000
set_option maxRecDepth 100000
namespace Go.Proofs.YtmfabeghfdoibaaGreat
open Go.RowKit
theorem implIndexN (a:Option Addr) (cap:Nat) (l:List Int) (x:Int) (w:World) (hT:l.length≤1048576) (h:Hid (IntsAt w a l)) :
 Calls Tryz.prog 241 #[.slice a l.length cap,.int .i64 x] w fun e w'=>e = .returned (.int .i64 (if l.findIdx (fun z=>decide (x=z))<l.length then (l.findIdx (fun z=>decide (x=z)):Int) else -1))∧w'=w:=by
 obtain ⟨len,hlen⟩:∃ n,l.length=n:=⟨_,rfl⟩
 have Hlen:Hid (l.length=len):=hlen
 obtain ⟨N,hN⟩:∃ N,l.findIdx (fun z=>decide (x=z))=N:=⟨_,rfl⟩
 have HN:Hid (l.findIdx (fun z=>decide (x=z))=N):=hN
 have hNl:N≤len:=by rw [← hN,← hlen];exact List.findIdx_le_length
 rw [hlen] at hT ⊢
 rw [hN]
 clear hlen hN
 go_enter Tryz.func241,Tryz.ntmps241
 go_wp2
 go_loop [8] (fun i=>∃ k:Nat,k≤N∧i = .int .i64 k) (fun i=>len-(intOf i).toNat)
 case atStart=>exact ⟨0,Nat.zero_le _,rfl⟩
 case round =>
  obtain ⟨k,hk,rfl⟩:=hrel
  by_cases hlt:k<len
  ·obtain ⟨b1,o1,ha1,hb1,c0⟩:=h.out k (by rw [Hlen.out];exact hlt)
   subst ha1
   have hkL:k<l.length:=by rw [Hlen.out];exact hlt
   rw [List.getElem?_eq_getElem hkL,Option.getD_some] at c0
   have hlt':(k:Int)<(len:Int):=by omega
   by_cases hkN:k=N
   ·have hp:x=l[k]:=by
     have:=List.findIdx_getElem (p:=fun z=>decide (x=z)) (xs:=l) (w:=by rw [HN.out,Hlen.out,← hkN];exact hlt)
     simpa only [HN.out,← hkN,decide_eq_true_eq] using this
    rw [← hp] at c0
    clear hp hkL
    subst hkN
    go_wp2
    go_ret
    exact ⟨by first|rfl|(rw [if_pos hlt];rfl),rfl⟩
   ·have hp:¬ x=l[k]:=by
     have:=List.not_of_lt_findIdx (p:=fun z=>decide (x=z)) (xs:=l) (i:=k) (by rw [HN.out];omega)
     simpa using this
    generalize l[k]=y at c0 hp
    clear hkL
    go_wp2
    go_round
    case rel=>exact ⟨k+1,by omega,by go_num⟩
    case measure=>simp [intOf];omega
  ·obtain rfl:k=len:=by omega
   obtain rfl:k=N:=by omega
   go_wp2
   go_ret
   exact ⟨by first|rfl|(rw [if_neg (Nat.lt_irrefl _)];rfl),rfl⟩
theorem implHasN (a:Option Addr) (cap:Nat) (l:List Int) (x:Int) (w:World) (hT:l.length≤1048576) (h:Hid (IntsAt w a l)) :
 Calls Tryz.prog 210 #[.slice a l.length cap,.int .i64 x] w fun e w'=>e = .returned (.bool (decide (x∈l)))∧w'=w:=by
 have I:=implIndexN a cap l x w hT h
 have hd:decide (x∈l)=decide (l.findIdx (fun z=>decide (x=z))<l.length):=by
  rw [Bool.eq_iff_iff,decide_eq_true_iff,decide_eq_true_iff,List.findIdx_lt_length]
  simp
 rw [hd]
 generalize l.findIdx (fun z=>decide (x=z))=N at I ⊢
 generalize l.length=len at I ⊢
 clear hd hT h
 go_enter Tryz.func210,Tryz.ntmps210
 go_wp2_with fail
 refine I.mono ?_
 rintro e w1 ⟨rfl,rfl⟩
 clear I
 by_cases hk:N<len
 ·rw [if_pos hk]
  have h0:(0:Int)≤(N:Int):=by omega
  go_wp2
  go_ret
  exact ⟨by simp [hk],rfl⟩
 ·rw [if_neg hk]
  go_wp2
  go_ret
  exact ⟨by simp [hk],rfl⟩
theorem one_of (most n:Int):(inB 0 most n && !decide ((0:Int)∈[n]))=inB 1 most n:=by
 rw [Bool.eq_iff_iff]
 simp only [Bool.and_eq_true,inB_true,Bool.not_eq_true',decide_eq_false_iff_not,List.mem_singleton]
 omega
theorem implFromOne (most n:Int) (B:Nat) (w:World) (hB:B=w.heap.size) :
 Calls Tryz.prog 171 #[.int .i64 most,.slice (some ⟨B,0,none⟩) 1 1] (w.alloc (.cells #[.int .i64 n] 2)) fun e w'=>e = .returned (.bool (inB 1 most n))∧w'=w.alloc (.cells #[.int .i64 n] 2):=by
 have A1:=fun (_:Nat)=>implUpTo1 most n w B hB
 have hI:Hid (IntsAt (w.alloc (.cells #[.int .i64 n] 2)) (some ⟨B,0,none⟩) [n]):=ints_new w 2 [n] #[.int .i64 n] B hB rfl
 have A2:=fun (_:Nat)=>implHasN (some ⟨B,0,none⟩) 1 [n] 0 (w.alloc (.cells #[.int .i64 n] 2)) (by simp) hI
 rw [show ([n]:List Int).length=1 from rfl] at A2
 have H:=one_of most n
 generalize decide ((0:Int)∈[n])=z at A2 H
 generalize inB 0 most n=y at A1 H
 generalize inB 1 most n=x at H ⊢
 generalize w.alloc (.cells #[.int .i64 n] 2)=W at A1 A2 ⊢
 have A1':Hid _:=A1
 have A2':Hid _:=A2
 have HH:Hid _:=H
 clear A1 A2 H hI hB
 go_enter Tryz.func171,Tryz.ntmps171
 go_wp2_with fail
 refine (A1'.out 0).mono ?_
 rintro e w1 ⟨rfl,rfl⟩
 cases y
 ·go_wp2
  go_ret
  exact ⟨ret_bool (by rw [← HH.out];rfl),rfl⟩
 go_wp2_with fail
 refine (A2'.out 0).mono ?_
 rintro e w2 ⟨rfl,rfl⟩
 go_wp2
 go_ret
 exact ⟨ret_bool (by rw [← HH.out];cases z<;>rfl),rfl⟩
theorem implItem (i:It) (w:World) :
 Calls Tryz.prog 238 #[i.val] w fun e w'=>e = .returned (.bool i.ok)∧Bel w w':=by
 have Hok:Hid (i.ok=(inB 1 1000000 i.id&&(inB 1 100000 i.size&&inB 0 1099511627776 i.tm))):=rfl
 obtain ⟨k,x,m⟩:=i
 generalize It.ok _=ok at Hok ⊢
 simp only [It.val] at Hok ⊢
 have A1:=fun B w h=>implFromOne 1000000 k B w h
 have A2:=fun B w h=>implFromOne 100000 x B w h
 have A3:=fun B w h=>implUpTo1 1099511627776 m w B h
 generalize inB 1 1000000 k=b1 at A1 Hok
 generalize inB 1 100000 x=b2 at A2 Hok
 generalize inB 0 1099511627776 m=b3 at A3 Hok
 have A1':Hid _:=A1
 have A2':Hid _:=A2
 have A3':Hid _:=A3
 clear A1 A2 A3
 go_enter Tryz.func238,Tryz.ntmps238
 go_wp2_with fail
 refine (A1'.out _ _ (by simp)).mono ?_
 rintro e w' ⟨rfl,rfl⟩
 cases b1
 ·go_wp2
  go_ret
  exact ⟨ret_bool (by rw [Hok.out];rfl),((Below.refl _ _).alloc nlr _).alloc (by simp) _⟩
 go_wp2_with fail
 refine (A2'.out _ _ (by simp)).mono ?_
 rintro e w' ⟨rfl,rfl⟩
 cases b2
 ·go_wp2
  go_ret
  exact ⟨ret_bool (by rw [Hok.out];rfl),(((Below.refl _ _).alloc nlr _).alloc (by simp) _).alloc (by simp;omega) _⟩
 go_wp2_with fail
 refine (A3'.out _ _ (by simp)).mono ?_
 rintro e w' ⟨rfl,rfl⟩
 go_wp2
 go_ret
 exact ⟨ret_bool (by rw [Hok.out];rfl),((((Below.refl _ _).alloc nlr _).alloc (by simp) _).alloc (by simp;omega) _).alloc (by simp;omega) _⟩
open Go.RowKit Go.Shelf
structure ItTells (W0:World) (D:Nat→Prop) (g:FuncId) (fs cb:Array Value) (Q:It→Prop) (p:It→Bool):Prop where
 enters:Enters Tryz.prog g
 under:∀ k,D k→k<W0.heap.size
 tells:∀ (W:World) (r:It),Q r→(∀ k,D k→W.heap[k]? = W0.heap[k]?)→Calls Tryz.prog g (fs++#[r.val]++cb) W fun e w'=>e = .returned (.bool (p r))∧Bel W w'
theorem implIndexT (a:Option Addr) (cap:Nat) (l:List It) (g:FuncId) (fs cb:Array Value) (D:Nat→Prop) (Q:It→Prop) (p:It→Bool) (w:World) (hT:l.length≤1048576) (h:Hid (ItsAt w a l)) (hq:Hid (∀ r∈l,Q r)) (ht:Hid (ItTells w D g fs cb Q p)) :
 Calls Tryz.prog 213 #[.slice a l.length cap,.func (.func g) fs cb] w fun e w'=>e = .returned (.int .i64 (if l.findIdx p<l.length then (l.findIdx p:Int) else -1))∧Bel w w':=by
 have eg:∀ args w,(callFunc g args).run Tryz.prog w = .ok (.enter g args) w:=ht.out.enters
 obtain ⟨len,hlen⟩:∃ n,l.length=n:=⟨_,rfl⟩
 have Hlen:Hid (l.length=len):=hlen
 obtain ⟨N,hN⟩:∃ N,l.findIdx p=N:=⟨_,rfl⟩
 have HN:Hid (l.findIdx p=N):=hN
 have hNl:N≤len:=by rw [← hN,← hlen];exact List.findIdx_le_length
 rw [hlen] at hT ⊢
 rw [hN]
 clear hlen hN
 go_enter Tryz.func213,Tryz.ntmps213
 go_wp2
 go_loopw [8] (fun i wr=>∃ k:Nat,k≤N∧i = .int .i64 k∧Hid (Bel w wr)) (fun i _=>len-(intOf i).toNat)
 case atStart=>exact ⟨0,Nat.zero_le _,rfl,Below.refl _ _⟩
 case round =>
  obtain ⟨k,hk,rfl,H1⟩:=hrel
  by_cases hlt:k<len
  ·have R:Hid (ItsAt wr a l):=h.out.below H1.out
   obtain ⟨b1,o1,ha1,hb1,-⟩:=R.out k (by rw [Hlen.out];exact hlt)
   subst ha1
   obtain ⟨c0,c1,c2⟩:=R.out.cells (k:=k) (by rw [Hlen.out];exact hlt)
   have hmem:itAt l k∈l:=by rw [itAt_lt (by rw [Hlen.out];exact hlt)];exact List.getElem_mem _
   have HC:=ht.out.tells wr (itAt l k) (hq.out _ hmem) fun j hj=>H1.out.block j (ht.out.under j hj)
   unfold It.val at HC
   have hlt':(k:Int)<(len:Int):=by omega
   by_cases hkN:k=N
   ·have hp:p (itAt l k)=true:=by
     rw [itAt_lt (by rw [Hlen.out];exact hlt)]
     have:=List.findIdx_getElem (p:=p) (xs:=l) (w:=by rw [HN.out,Hlen.out,← hkN];exact hlt)
     simpa only [HN.out,← hkN] using this
    rw [hp] at HC
    clear hmem hp R
    generalize itAt l k=r at c0 c1 c2 HC
    subst hkN
    go_wp2_with fail
    refine HC.mono ?_
    rintro e w' ⟨rfl,hb'⟩
    have B2:Hid (Bel w w'):=H1.out.trans (hb'.mono H1.out.size)
    clear hb' H1 HC c0 c1 c2
    go_wp2
    go_ret
    exact ⟨by first|rfl|(rw [if_pos hlt];rfl),B2.out⟩
   ·have hp:p (itAt l k)=false:=by
     rw [itAt_lt (by rw [Hlen.out];exact hlt)]
     have:=List.not_of_lt_findIdx (p:=p) (xs:=l) (i:=k) (by rw [HN.out];omega)
     simpa using this
    rw [hp] at HC
    clear hmem hp R
    generalize itAt l k=r at c0 c1 c2 HC
    go_wp2_with fail
    refine HC.mono ?_
    rintro e w' ⟨rfl,hb'⟩
    have B2:Hid (Bel w w'):=H1.out.trans (hb'.mono H1.out.size)
    clear hb' H1 HC c0 c1 c2
    go_wp2
    go_roundw
    case rel=>exact ⟨k+1,by omega,by go_num,B2⟩
    case measure=>simp [intOf];omega
  ·obtain rfl:k=len:=by omega
   obtain rfl:k=N:=by omega
   go_wp2
   go_ret
   exact ⟨by first|rfl|(rw [if_neg (Nat.lt_irrefl _)];rfl),H1.out⟩
theorem any_idxT {α:Type} (l:List α) (p:α→Bool):decide (l.findIdx p<l.length)=l.any p:=by
 rw [Bool.eq_iff_iff,decide_eq_true_iff,List.findIdx_lt_length,List.any_eq_true]
theorem implContainsT (a:Option Addr) (cap:Nat) (l:List It) (g:FuncId) (fs cb:Array Value) (D:Nat→Prop) (Q:It→Prop) (p:It→Bool) (w:World) (hT:l.length≤1048576) (h:Hid (ItsAt w a l)) (hq:Hid (∀ r∈l,Q r)) (ht:Hid (ItTells w D g fs cb Q p)) :
 Calls Tryz.prog 178 #[.slice a l.length cap,.func (.func g) fs cb] w fun e w'=>e = .returned (.bool (l.any p))∧Bel w w':=by
 have I:=fun (w:World) h ht=>implIndexT a cap l g fs cb D Q p w hT h hq ht
 have Ha:Hid (decide (l.findIdx p<l.length)=l.any p):=any_idxT l p
 generalize l.any p=b at Ha ⊢
 by_cases hlt:l.findIdx p<l.length
 ·rw [if_pos hlt] at I
  rw [decide_eq_true hlt] at Ha
  generalize l.findIdx p=N at I hlt
  generalize l.length=len at I hlt hT ⊢
  have I':Hid _:=I
  clear I hlt
  have hp:(0:Int)≤(N:Int):=by omega
  go_enter Tryz.func178,Tryz.ntmps178
  go_wp2_with fail
  refine (I'.out _ h ht).mono ?_
  rintro e w' ⟨rfl,hb⟩
  have B2:Hid (Bel w w'):=hb
  clear hb
  go_wp2
  go_ret
  exact ⟨ret_bool (by rw [← Ha.out]),B2.out⟩
 ·rw [if_neg hlt] at I
  rw [decide_eq_false hlt] at Ha
  generalize l.length=len at I hT ⊢
  have I':Hid _:=I
  clear I hlt
  go_enter Tryz.func178,Tryz.ntmps178
  go_wp2_with fail
  refine (I'.out _ h ht).mono ?_
  rintro e w' ⟨rfl,hb⟩
  have B2:Hid (Bel w w'):=hb
  clear hb
  go_wp2
  go_ret
  exact ⟨ret_bool (by rw [← Ha.out]),B2.out⟩
open Go.RowKit Go.Shelf
theorem implCountL (r:Rw) (a:Option Addr) (c:Nat) (w:World) (hB:r.big≤1048576) (h:Hid (IzAt w a r.lists)) :
 Calls Tryz.prog 202 #[r.val a c] w fun e w'=>e = .returned (.int .i64 (izSum r.lists r.lists.length))∧Bel w w':=implCntRw r a c w hB h
theorem implNotIt (r:It) (w:World) :
 Calls Tryz.prog 237 #[r.val] w fun e w'=>e = .returned (.bool (!r.ok))∧Bel w w':=by
 have C:=fun w=>implItem r w
 generalize r.ok=ok at C ⊢
 obtain ⟨i,p,s⟩:=r
 simp only [It.val] at C ⊢
 have C':Hid _:=C
 clear C
 have hB:Hid (Bel w (w.alloc (.cells #[.int .i64 i,.int .i64 p,.int .i64 s] 80))):=(Below.refl _ _).alloc nlr _
 go_enter Tryz.func237,Tryz.ntmps237
 go_wp2_with fail
 refine (C'.out _).mono ?_
 rintro e w1 ⟨rfl,b1⟩
 have B:Hid (Bel w w1):=hB.out.trans (b1.mono hB.out.size)
 clear b1 hB
 go_wp2
 go_ret
 exact ⟨rfl,B.out⟩
theorem notItTells (w:World):ItTells w (fun _=>False) 237 #[] #[] (fun _=>True) (fun r => !r.ok) :=
 ⟨enters_of Tryz.func237 (by kernel_rfl) rfl,fun _ h=>h.elim,fun W r _ _=>implNotIt r W⟩
def eachK (ls:List (List It)) (k:Nat):Bool:=(ls.take k).all fun l=>l.all It.ok
theorem eachK_succ {ls:List (List It)} {k:Nat} (h:k<ls.length):eachK ls (k+1)=(eachK ls k&&(izAt ls k).all It.ok):=by
 unfold eachK
 rw [List.take_succ_eq_append_getElem h,List.all_append,izAt_lt h]
 simp
theorem eachK_hit {ls:List (List It)} {k:Nat} (h:k<ls.length) (g:(izAt ls k).all It.ok=false):eachK ls ls.length=false:=by
 unfold eachK
 rw [List.take_length,List.all_eq_false]
 refine ⟨_,List.getElem_mem h,?_⟩
 rw [izAt_lt h] at g
 simp [g]
theorem eachK_all (r:Rw):eachK r.lists r.lists.length=r.all.all It.ok:=by
 unfold eachK Rw.all
 rw [List.take_length,List.all_flatten]
theorem implEachIt (r:Rw) (a:Option Addr) (c:Nat) (w:World) (hB:r.big≤1048576) (h:Hid (IzAt w a r.lists)) :
 Calls Tryz.prog 203 #[r.val a c] w fun e w'=>e = .returned (.bool (r.all.all It.ok))∧Bel w w':=by
 obtain ⟨hT,-,hin⟩:=Rw.small hB
 rw [← eachK_all]
 obtain ⟨f,ls⟩:=r
 simp only [Rw.val] at h hT hin ⊢
 clear hB
 have Hin:Hid (∀ k,k<ls.length→(izAt ls k).length≤1048576):=hin
 have Hit:Hid (∀ k,k<ls.length→(izAt ls k).all It.ok=false→eachK ls ls.length=false):=fun k hk g=>eachK_hit hk g
 obtain ⟨len,hlen⟩:∃ n,ls.length=n:=⟨_,rfl⟩
 rw [hlen] at hT Hin Hit ⊢
 have Hlen:Hid (ls.length=len):=hlen
 clear hlen hin
 obtain ⟨W,hW⟩:∃ W,W=w.alloc (.cells #[.int .i64 f,.slice a len c] 44):=⟨_,rfl⟩
 have X:Hid (IzAt W a ls∧Bel w W∧Boxed W w.heap.size #[.int .i64 f,.slice a len c] 44):=by
  rw [hW]
  exact ⟨h.out.alloc _,(Below.refl _ _).alloc nlr _,Boxed.new _ _ _⟩
 have HW:Hid (W=_):=hW
 clear hW h
 go_enter Tryz.func203,Tryz.ntmps203
 go_wp2
 rw [← HW.out]
 have c1:W.cell? ⟨w.heap.size,1,none⟩=some (.slice a len c):=X.out.2.2.cell 1 rfl
 go_wp2
 clear c1
 go_loopw [8] (fun i wr=>∃ k:Nat,k≤len∧i = .int .i64 k∧Hid (eachK ls k=true)∧Hid (Bel W wr)) (fun i _=>len-(intOf i).toNat)
 case atStart=>exact ⟨0,Nat.zero_le _,rfl,rfl,Below.refl _ _⟩
 case round =>
  obtain ⟨k,hk,rfl,Hg,Hb⟩:=hrel
  by_cases hlt:k<len
  ·have hkl:k<ls.length:=by rw [Hlen.out];exact hlt
   obtain ⟨b,off,ak,ck,ha,hb,hc,hr,-⟩:=X.out.1.below Hb.out k hkl
   subst ha
   have hlt':(k:Int)<(len:Int):=by omega
   have C:=implContainsT ak ck (izAt ls k) 237 #[] #[] (fun _=>False) (fun _=>True) (fun r => !r.ok) wr (Hin.out k hlt) hr (fun _ _=>trivial) (notItTells wr)
   have Ha:Hid ((!((izAt ls k).any fun r => !r.ok))=(izAt ls k).all It.ok):=by
    show _=_
    rw [List.all_eq_not_any_not]
   have Hs:=eachK_succ hkl
   have Hh:=Hit.out k hlt
   rw [Hg.out,← Ha.out] at Hs
   rw [← Ha.out] at Hh
   generalize ((izAt ls k).any fun r => !r.ok)=z at C Hs Hh
   generalize (izAt ls k).length=n at C hc
   have HS:Hid _:=Hs
   have HH:Hid _:=Hh
   clear Hs Hh Ha hr
   go_wp2_with fail
   refine C.mono ?_
   rintro e w1 ⟨rfl,b1⟩
   have B:Hid (Bel W w1):=Hb.out.trans (b1.mono Hb.out.size)
   clear b1 C hc
   cases z
   ·go_wp2
    go_roundw
    case rel=>exact ⟨k+1,by omega,by go_num,by show eachK ls (k+1)=true;rw [HS.out];rfl,B⟩
    case measure=>simp [intOf];omega
   ·go_wp2
    go_ret
    exact ⟨ret_bool (by rw [HH.out rfl]),X.out.2.1.trans (B.out.mono X.out.2.1.size)⟩
  ·obtain rfl:k=len:=by omega
   go_wp2
   go_ret
   exact ⟨ret_bool Hg.out.symm,X.out.2.1.trans (Hb.out.mono X.out.2.1.size)⟩
open Go.RowKit Go.Maps
def noElemR (_:Value):Option (DataW Unit×List MemPlace):=some (.lit (.bool true),[])
def IdsIn (w:World) (b:Nat) (L:List Int):Prop :=
 ∃ D:DataW Unit,w.ownsMap Tryz.prog 2 noElemR b L.length D∧(∀ x,has D (.int .i64 x)=decide (x∈L))∧(Maps.size D=L.length↔L.Nodup)
theorem IdsIn.lt {w:World} {b:Nat} {L:List Int} (h:IdsIn w b L):b<w.heap.size:=by
 obtain ⟨D,o,_⟩:=h
 exact o.lt
theorem IdsIn.kept {w w':World} {b:Nat} {L:List Int} (h:IdsIn w b L) (hb:w'.heap[b]? = w.heap[b]?):IdsIn w' b L:=by
 obtain ⟨D,⟨es,clock,h1,h2⟩,hg⟩:=h
 exact ⟨D,⟨es,clock,hb.trans h1,h2⟩,hg⟩
theorem IdsIn.made (w:World):IdsIn (w.alloc (.map #[] 0)) w.heap.size [] :=
 ⟨_,World.ownsMap_made w _ _ _,fun _=>rfl,by simp [Maps.size]⟩
theorem IdsIn.store {w:World} {b:Nat} {L:List Int} (h:IdsIn w b L) (hn:L.length<maxLen) {x:Int} (wx:(Lit.int .i64 x).wf=true) (v:Value) :
 ∃ w',(Instr.mapUpdate 104 (.map (some b)) (.int .i64 x) v).run Tryz.prog w = .ok () w'∧IdsIn w' b (L++[x])∧w.grownBy w' (some b):=by
 obtain ⟨D,o,hg,hs⟩:=h
 have hk:keyOf Tryz.prog 2 (.int .i64 x)=some (.int .i64 x):=keyOf_int_mk Tryz.underlying2 wx
 have hle:=o.size_le
 obtain ⟨w',hrun,o',gr⟩:=o.update (int_keyed Tryz.underlying2) Tryz.underlying104 hn hk (val:=v) (d:=.lit (.bool true)) (ps:=[]) rfl
 have hz:=size_put (k:=.int .i64 x) (o.tidy (int_keyed Tryz.underlying2)) (DataW.lit (.bool true))
 rw [hg x] at hz
 refine ⟨w',hrun,⟨_,by rw [List.length_append];exact o',fun y=>?_,?_⟩,gr⟩
 ·by_cases e:y=x
  ·subst e
   rw [has_put_same o.isMap ((int_keyed Tryz.underlying2).key hk)]
   simp
  ·rw [has_put_other (by intro e2;exact e (by simpa using e2)),hg y]
   simp [e]
 ·rw [hz,List.length_append,List.length_singleton,List.nodup_append]
  by_cases hm:x∈L
  ·rw [decide_eq_true hm,if_pos rfl]
   constructor
   ·intro e;omega
   ·intro e
    exact absurd rfl (e.2.2 x hm x (by simp))
  ·rw [decide_eq_false hm,if_neg (by simp)]
   constructor
   ·intro e
    refine ⟨hs.1 (by omega),by simp,?_⟩
    intro y hy z hz' e2
    rw [List.mem_singleton.1 hz'] at e2
    exact hm (e2▸hy)
   ·rintro ⟨e,_⟩
    rw [hs.2 e]
theorem implAddR (b:Nat) (L:List Int) (x:Int) (w:World) (hn:L.length≤1048576) (wx:(Lit.int .i64 x).wf=true) (h:Hid (IdsIn w b L)) :
 Calls Tryz.prog 64 #[.map (some b),.int .i64 x] w fun e w'=>e = .returned (.tuple #[])∧IdsIn w' b (L++[x])∧w.grownBy w' (some b):=by
 obtain ⟨w1,hrun,h1,g1⟩:=h.out.store (by unfold maxLen;omega) wx (.agg #[])
 have H1:Hid (IdsIn w1 b (L++[x])∧w.grownBy w1 (some b)):=⟨h1,g1⟩
 clear h1 g1
 go_enter Tryz.func64,Tryz.ntmps64
 go_wp2
 refine bodyPost_end (v:=.tuple #[]) ?_ rfl ?_
 ·simp [results,Tryz.results64,go_sem]
 ·exact ⟨rfl,H1.out⟩
theorem not_ids {w:World} {b:Nat} {L:List Int} (h:IdsIn w b L) {off:Nat} {v:Value} (c:∃ o,w.cell? ⟨o,off,none⟩=some v∧o=b):False:=by
 obtain ⟨D,⟨es,clock,h1,_⟩,_⟩:=h
 obtain ⟨o,hc,rfl⟩:=c
 simp [World.cell?,h1] at hc
theorem ItsAt.asideR {w w':World} {a:Option Addr} {l:List It} {b:Nat} {L:List Int} (h:ItsAt w a l) (hm:IdsIn w b L) (hg:w.grownBy w' (some b)):ItsAt w' a l:=by
 intro k hk
 obtain ⟨o,off,e,ho,c0,c1,c2⟩:=h k hk
 have hne:o≠b:=fun e=>not_ids hm ⟨o,c0,e⟩
 exact ⟨o,off,e,Nat.lt_of_lt_of_le ho hg.size,hg.cell c0 (by simpa using hne),hg.cell c1 (by simpa using hne),hg.cell c2 (by simpa using hne)⟩
theorem IzAt.asideR {w w':World} {a:Option Addr} {ls:List (List It)} {b:Nat} {L:List Int} (h:IzAt w a ls) (hm:IdsIn w b L) (hg:w.grownBy w' (some b)):IzAt w' a ls:=by
 intro k hk
 obtain ⟨o,off,ak,ck,e,ho,hc,hr,hl⟩:=h k hk
 have hne:o≠b:=fun e=>not_ids hm ⟨o,hc,e⟩
 exact ⟨o,off,ak,ck,e,Nat.lt_of_lt_of_le ho hg.size,hg.cell hc (by simpa using hne),hr.asideR hm hg,hl⟩
theorem IdsIn.len {w:World} {b:Nat} {L:List Int} (h:IdsIn w b L):∃ n:Nat,n≤L.length∧(n=L.length↔L.Nodup)∧∀ ty,(Builtin.len_ #[104] ty #[.map (some b)]).run Tryz.prog w = .ok (.int .i64 n) w:=by
 obtain ⟨D,o,_,hs⟩:=h
 exact ⟨Maps.size D,o.size_le,hs,fun ty=>o.len Tryz.underlying104 ty⟩
theorem pre_len_le {r:Rw} {i:Nat} (h:i<r.lists.length) (k:Nat):(r.pre i k).length≤r.all.length:=by
 obtain ⟨t,ht⟩:=pre_all h k
 rw [ht,List.length_append]
 omega
structure IdR (w:World) (f:Int) (a:Option Addr) (n c:Nat) (r:Rw) (M:Nat) (L:List Int) (wr:World):Prop where
 ids:IdsIn wr M L
 here:IzAt wr a r.lists
 box:Boxed wr w.heap.size #[.int .i64 f,.slice a n c] 44
 bel:Bel w wr
 far:w.heap.size<M
section
variable {w:World} {f:Int} {a:Option Addr} {n c:Nat} {r:Rw} {M:Nat} {L:List Int} {wr wd:World} {x:Int}
theorem IdR.alloc (h:IdR w f a n c r M L wr) (o:Obj):IdR w f a n c r M L (wr.alloc o) :=
 ⟨h.ids.kept (Below.heap_alloc _ _ _ h.ids.lt),h.here.alloc _,h.box.more _,h.bel.alloc h.bel.size _,h.far⟩
theorem IdR.add (h:IdR w f a n c r M L wr) (i:IdsIn wd M (L++[x])) (g:wr.grownBy wd (some M)):IdR w f a n c r M (L++[x]) wd :=
 ⟨i,h.here.asideR h.ids g,by have:=h.far;exact (g.block _ h.box.under (by simp;omega)).trans h.box,h.bel.grown g h.bel.size (by rintro j e;cases e;have:=h.far;omega),h.far⟩
end
theorem implIdsDiffer (r:Rw) (a:Option Addr) (c:Nat) (w:World) (hB:r.big≤1048576) (hok:r.all.all It.ok=true) (h:Hid (IzAt w a r.lists)) :
 Calls Tryz.prog 204 #[r.val a c] w fun e w'=>e = .returned (.bool (decide (r.all.map It.id).Nodup))∧Bel w w':=by
 obtain ⟨hT,hS,hin⟩:=Rw.small hB
 have C:=fun w h=>implCountL r a c w hB h
 rw [← all_length] at C hS
 have Hids:Hid (∀ i k,i<r.lists.length→k<(izAt r.lists i).length→(Lit.int .i64 (itAt (izAt r.lists i) k).id).wf=true):=by
  intro i k hi hk
  have hm:itAt (izAt r.lists i) k∈r.all:=by
   obtain ⟨t,ht⟩:=pre_all hi (k+1)
   rw [ht,pre_step hk]
   simp
  have:=List.all_eq_true.1 hok _ hm
  unfold It.ok at this
  simp only [Bool.and_eq_true,inB_true] at this
  exact WalkArith.wf_i64 (by omega)
 have Hpl:Hid (∀ i k,i<r.lists.length→(r.pre i k).length≤1048576):=fun i k hi=>Nat.le_trans (pre_len_le hi k) hS
 have Hin:Hid (∀ k,k<r.lists.length→(izAt r.lists k).length≤1048576):=hin
 obtain ⟨R,hR⟩:∃ R,decide (r.all.map It.id).Nodup=R:=⟨_,rfl⟩
 rw [hR]
 have Fin:Hid (∀ m:Nat,(m=((r.pre r.lists.length 0).map It.id).length↔((r.pre r.lists.length 0).map It.id).Nodup)→decide ((m:Int)=(r.all.length:Int))=R):=by
  intro m hm
  rw [pre_end,List.length_map] at hm
  rw [← hR,Bool.eq_iff_iff,decide_eq_true_iff,decide_eq_true_iff,← hm]
  omega
 obtain ⟨len,hlen⟩:∃ n,r.lists.length=n:=⟨_,rfl⟩
 unfold Rw.val at C ⊢
 rw [hlen] at hT C Fin Hids Hpl Hin ⊢
 have Hlen:Hid (r.lists.length=len):=hlen
 generalize r.most=f at C ⊢
 generalize (r.all.length:Int)=cnt at C Fin
 have C':Hid _:=C
 clear hlen hB hin hR C hok hS
 obtain ⟨W,hW⟩:∃ W,W=(w.alloc (.cells #[.int .i64 f,.slice a len c] 44)).alloc (.map #[] 0):=⟨_,rfl⟩
 have X:Hid (IdR w f a len c r (w.heap.size+1) ((r.pre 0 0).map It.id) W):=by
  rw [hW]
  refine ⟨?_,(h.out.alloc _).alloc _,(Boxed.new w _ _).more _,((Below.refl _ _).alloc nlr _).alloc (by simp) _,by omega⟩
  rw [pre_zero]
  have:=IdsIn.made (w.alloc (.cells #[.int .i64 f,.slice a len c] 44))
  simpa using this
 have HW:Hid (W=_):=hW
 clear hW h
 have hmm := @run_makeMap Tryz.prog
 go_enter Tryz.func204,Tryz.ntmps204
 go_wp2
 rw [← HW.out]
 have c1:W.cell? ⟨w.heap.size,1,none⟩=some (.slice a len c):=X.out.box.cell 1 rfl
 go_wp2
 clear c1
 go_loopw [12] (fun i wr=>∃ k:Nat,k≤len∧i = .int .i64 k∧Hid (IdR w f a len c r (w.heap.size+1) ((r.pre k 0).map It.id) wr)) (fun i _=>len-(intOf i).toNat)
 case atStart=>exact ⟨0,Nat.zero_le _,rfl,X.out⟩
 case round =>
  obtain ⟨k,hk,rfl,HK⟩:=hrel
  clear X
  by_cases hlt:k<len
  ·have hkl:k<r.lists.length:=by rw [Hlen.out];exact hlt
   have Hat:Hid (∀ wr L,IdR w f a len c r (w.heap.size+1) L wr→∃ b off ak ck,a=some ⟨b,off,none⟩∧wr.cell? ⟨b,off+k,none⟩=some (.slice ak (izAt r.lists k).length ck)):=fun wr L g=>by
    obtain ⟨b,off,ak,ck,ha,_,hc,_⟩:=g.here k hkl
    exact ⟨b,off,ak,ck,ha,hc⟩
   obtain ⟨b,off,ak,ck,ha,hb,hc,hr,-⟩:=HK.out.here k hkl
   subst ha
   have hlt':(k:Int)<(len:Int):=by omega
   have hn:=Hin.out k hlt
   have Hid1:=Hids.out k
   have Hp1:=Hpl.out k
   have Hs:Hid (∀ q,q<(izAt r.lists k).length→(r.pre k (q+1)).map It.id=(r.pre k q).map It.id++[(itAt (izAt r.lists k) q).id]):=fun q hq=>by
    rw [pre_step hq,List.map_append]
    rfl
   have Hnx:Hid (r.pre (k+1) 0=r.pre k (izAt r.lists k).length):=pre_next hkl
   obtain ⟨n,hnl⟩:∃ n,(izAt r.lists k).length=n:=⟨_,rfl⟩
   rw [hnl] at hc hn Hs Hnx Hid1
   have Hnl:Hid ((izAt r.lists k).length=n):=hnl
   have HI:Hid _:=Hid1
   have HP:Hid _:=Hp1
   have HR:Hid (ItsAt wr ak (izAt r.lists k)):=hr
   clear hnl Hid1 Hp1 Hat hr
   obtain ⟨wk,hwk⟩:∃ wk,wk=wr:=⟨_,rfl⟩
   rw [← hwk] at HR
   have HK0:Hid (IdR w f (some ⟨b,off,none⟩) len c r (w.heap.size+1) ((r.pre k 0).map It.id) wr∧ItsAt wr ak (izAt r.lists k)):=⟨HK.out,by rw [← hwk];exact HR.out⟩
   clear HK HR hwk
   go_wp2
   clear hc hb
   go_loopw [18] (fun j wr=>∃ q:Nat,q≤n∧j = .int .i64 q∧Hid (IdR w f (some ⟨b,off,none⟩) len c r (w.heap.size+1) ((r.pre k q).map It.id) wr∧ItsAt wr ak (izAt r.lists k))) (fun j _=>n-(intOf j).toNat)
   case atStart=>exact ⟨0,Nat.zero_le _,rfl,HK0.out⟩
   case round =>
    obtain ⟨q,hq,rfl,HQ⟩:=hrel
    clear HK0
    by_cases hql:q<n
    ·have hqn:q<(izAt r.lists k).length:=by rw [Hnl.out];exact hql
     obtain ⟨b2,off2,ha2,hb2,-⟩:=HQ.out.2 q hqn
     subst ha2
     obtain ⟨e0,e1,e2⟩:=HQ.out.2.cells hqn
     have hs:=Hs.out q hql
     have wf:=HI.out q hlt hql
     have hL:=HP.out q hlt
     have hql':(q:Int)<(n:Int):=by omega
     generalize itAt (izAt r.lists k) q=x at e0 e1 e2 hs wf
     obtain ⟨x0,x1,x2⟩:=x
     simp only [] at e0 e1 e2 hs wf
     rw [← List.length_map (f:=It.id)] at hL
     have AD:=fun W1 h=>implAddR (w.heap.size+1) ((r.pre k q).map It.id) x0 W1 hL wf h
     rw [← hs] at AD
     have AD':Hid _:=AD
     have Hs2:Hid _:=hs
     have H3:Hid (IdR w f (some ⟨b,off,none⟩) len c r (w.heap.size+1) ((r.pre k q).map It.id) (wr.alloc (.cells #[.int .i64 x0,.int .i64 x1,.int .i64 x2] 80))∧ItsAt (wr.alloc (.cells #[.int .i64 x0,.int .i64 x1,.int .i64 x2] 80)) (some ⟨b2,off2,none⟩) (izAt r.lists k)):=⟨HQ.out.1.alloc _,HQ.out.2.alloc _⟩
     clear AD hs hL wf
     go_wp2_with fail
     refine (AD'.out _ H3.out.1.ids).mono ?_
     rintro e5 w5 ⟨rfl,m5,g5⟩
     have H5:Hid (IdR w f (some ⟨b,off,none⟩) len c r (w.heap.size+1) ((r.pre k (q+1)).map It.id) w5∧ItsAt w5 (some ⟨b2,off2,none⟩) (izAt r.lists k)):=by
      rw [Hs2.out] at m5 ⊢
      exact ⟨H3.out.1.add m5 g5,H3.out.2.asideR H3.out.1.ids g5⟩
     clear m5 g5 H3 HQ e0 e1 e2
     go_wp2
     go_roundw
     case rel=>exact ⟨q+1,by omega,by go_num,H5⟩
     case measure=>simp [intOf];omega
    ·obtain rfl:q=n:=by omega
     go_wp2
     go_roundw
     case rel =>
      refine ⟨k+1,by omega,by go_num,?_⟩
      show IdR _ _ _ _ _ _ _ _ _
      rw [Hnx.out]
      exact HQ.out.1
     case measure=>simp [intOf];omega
  ·obtain rfl:k=len:=by omega
   obtain ⟨m,hm1,hm2,hrun⟩:=HK.out.ids.len
   have hf:=Fin.out m hm2
   have FF:Hid _:=hf
   have e0:wr.cell? ⟨w.heap.size,0,none⟩=some (.int .i64 f):=HK.out.box.cell 0 rfl
   have e1:wr.cell? ⟨w.heap.size,1,none⟩=some (.slice a k c):=HK.out.box.cell 1 rfl
   clear hm1 hm2 hf
   go_wp2_with fail
   refine (C'.out _ HK.out.here).mono ?_
   rintro e w1 ⟨rfl,b1⟩
   have B:Hid (Bel w w1):=HK.out.bel.trans (b1.mono HK.out.bel.size)
   clear b1 e0 e1
   go_wp2
   go_ret
   exact ⟨ret_bool FF.out,B.out⟩
theorem Rw.ok_asks (r:Rw):r.ok=(inB 1 200 r.most&&(inB 1 16 (r.lists.length:Int)&&(decide ((izSum r.lists r.lists.length:Int)≤r.most)&&(r.all.all It.ok&&decide (r.all.map It.id).Nodup)))):=by
 have e:=all_length r
 unfold Rw.ok
 rw [← e]
 have e2:decide (1≤r.lists.length∧r.lists.length≤16)=inB 1 16 (r.lists.length:Int):=by
  rw [Bool.eq_iff_iff,inB_true,decide_eq_true_iff]
  omega
 rw [e2]
 generalize decide (r.all.map It.id).Nodup=z1
 generalize r.all.all It.ok=z2
 generalize decide ((r.all.length:Int)≤r.most)=z3
 cases z1<;>cases z2<;>cases z3<;>simp
theorem implRowsOk (r:Rw) (a:Option Addr) (c:Nat) (w:World) (hB:r.big≤1048576) (h:Hid (IzAt w a r.lists)) :
 Calls Tryz.prog 166 #[r.val a c] w fun e w'=>e = .returned (.bool r.ok)∧Below w.heap.size w w':=by
 have Hok:Hid _:=r.ok_asks
 have A1:=fun (w:World) (B:Nat) (hB:B=w.heap.size)=>implFromOne 200 r.most B w hB
 have A2:=fun (w:World) (B:Nat) (hB:B=w.heap.size)=>implFromOne 16 (r.lists.length:Int) B w hB
 have A3:=fun (w:World) h=>implCountL r a c w hB h
 have A4:=fun (w:World) h=>implEachIt r a c w hB h
 have A5:=fun (w:World) hok h=>implIdsDiffer r a c w hB hok h
 unfold Rw.val at A3 A4 A5 ⊢
 generalize r.ok=ok at Hok ⊢
 obtain ⟨hT,-,-⟩:=Rw.small hB
 generalize r.lists.length=n at A1 A2 A3 A4 A5 hT Hok ⊢
 generalize (izSum r.lists n:Int)=cnt at A3 Hok
 generalize decide (r.all.map It.id).Nodup=b5 at A5 Hok
 generalize r.all.all It.ok=b4 at A4 A5 Hok
 generalize inB 1 200 r.most=b1 at A1 Hok
 generalize inB 1 16 (n:Int)=b2 at A2 Hok
 generalize r.most=f at A1 A3 A4 A5 Hok ⊢
 have A1':Hid _:=A1
 have A2':Hid _:=A2
 have A3':Hid _:=A3
 have A4':Hid _:=A4
 have A5':Hid _:=A5
 clear A1 A2 A3 A4 A5 hB
 obtain ⟨S,hS⟩:∃ S,S=w.heap.size:=⟨_,rfl⟩
 have HS:Hid (S=w.heap.size):=hS
 have X:Hid (IzAt (w.alloc (.cells #[.int .i64 f,.slice a n c] 44)) a r.lists∧Boxed (w.alloc (.cells #[.int .i64 f,.slice a n c] 44)) S #[.int .i64 f,.slice a n c] 44∧Below S w (w.alloc (.cells #[.int .i64 f,.slice a n c] 44))):=by
  rw [hS]
  exact ⟨h.out.alloc _,Boxed.new _ _ _,(Below.refl _ _).alloc nlr _⟩
 rw [← hS]
 go_enter Tryz.func166,Tryz.ntmps166
 go_wp2_with fail
 rw [← hS]
 generalize w.alloc (.cells #[.int .i64 f,.slice a n c] 44)=w0 at X ⊢
 clear hS h
 have c0:w0.cell? ⟨S,0,none⟩=some (.int .i64 f):=X.out.2.1.cell 0 rfl
 have hl:S<w0.heap.size:=X.out.2.1.under
 cases b1
 ·first|(go_region_with (first|(go_at_call_of 171 (Value.int IntKind.i64 200);refine (A1'.out w0.drew w0.heap.size rfl).mono ?_;rintro e w1 ⟨rfl,hw1⟩;have X1:Hid (IzAt w1 a r.lists∧Boxed w1 S #[.int .i64 f,.slice a n c] 44∧Below S w w1):=(by rw [hw1];exact ⟨X.out.1.drew.alloc _,Boxed.more (w:=w0.drew) X.out.2.1 _,X.out.2.2.drew.alloc (Nat.le_of_lt hl) _⟩);have c1:w1.cell? ⟨S,1,none⟩=some (.slice a n c):=X1.out.2.1.cell 1 rfl;have hl1:S<w1.heap.size:=X1.out.2.1.under;clear hw1)))|fail
  all_goals (
   go_wp2
   go_ret
   exact ⟨ret_bool (by rw [Hok.out];simp),X1.out.2.2⟩)
 cases b2
 ·first|(go_region_with (first|(go_at_call_of 171 (Value.int IntKind.i64 200);refine (A1'.out w0.drew w0.heap.size rfl).mono ?_;rintro e w1 ⟨rfl,hw1⟩;have X1:Hid (IzAt w1 a r.lists∧Boxed w1 S #[.int .i64 f,.slice a n c] 44∧Below S w w1):=(by rw [hw1];exact ⟨X.out.1.drew.alloc _,Boxed.more (w:=w0.drew) X.out.2.1 _,X.out.2.2.drew.alloc (Nat.le_of_lt hl) _⟩);have c1:w1.cell? ⟨S,1,none⟩=some (.slice a n c):=X1.out.2.1.cell 1 rfl;have hl1:S<w1.heap.size:=X1.out.2.1.under;clear hw1)|(go_at_call_of 171 (Value.int IntKind.i64 16);refine (A2'.out _ _ (by simp)).mono ?_;rintro e w2 ⟨rfl,hw2⟩;have X2:Hid (IzAt w2 a r.lists∧Boxed w2 S #[.int .i64 f,.slice a n c] 44∧Below S w w2):=(by rw [hw2];exact ⟨X1.out.1.alloc _,X1.out.2.1.more _,X1.out.2.2.alloc (Nat.le_of_lt X1.out.2.1.under) _⟩);have d0:w2.cell? ⟨S,0,none⟩=some (.int .i64 f):=X2.out.2.1.cell 0 rfl;have d1:w2.cell? ⟨S,1,none⟩=some (.slice a n c):=X2.out.2.1.cell 1 rfl;clear hw2)))|fail
  all_goals (
   go_wp2
   go_ret
   exact ⟨ret_bool (by rw [Hok.out];simp),X2.out.2.2⟩)
 by_cases hc:cnt≤f
 rotate_left
 ·rw [decide_eq_false hc] at Hok
  have hc':decide (cnt≤f)=false:=decide_eq_false hc
  first|(go_region_with (first|(go_at_call_of 171 (Value.int IntKind.i64 200);refine (A1'.out w0.drew w0.heap.size rfl).mono ?_;rintro e w1 ⟨rfl,hw1⟩;have X1:Hid (IzAt w1 a r.lists∧Boxed w1 S #[.int .i64 f,.slice a n c] 44∧Below S w w1):=(by rw [hw1];exact ⟨X.out.1.drew.alloc _,Boxed.more (w:=w0.drew) X.out.2.1 _,X.out.2.2.drew.alloc (Nat.le_of_lt hl) _⟩);have c1:w1.cell? ⟨S,1,none⟩=some (.slice a n c):=X1.out.2.1.cell 1 rfl;have hl1:S<w1.heap.size:=X1.out.2.1.under;clear hw1)|(go_at_call_of 171 (Value.int IntKind.i64 16);refine (A2'.out _ _ (by simp)).mono ?_;rintro e w2 ⟨rfl,hw2⟩;have X2:Hid (IzAt w2 a r.lists∧Boxed w2 S #[.int .i64 f,.slice a n c] 44∧Below S w w2):=(by rw [hw2];exact ⟨X1.out.1.alloc _,X1.out.2.1.more _,X1.out.2.2.alloc (Nat.le_of_lt X1.out.2.1.under) _⟩);have d0:w2.cell? ⟨S,0,none⟩=some (.int .i64 f):=X2.out.2.1.cell 0 rfl;have d1:w2.cell? ⟨S,1,none⟩=some (.slice a n c):=X2.out.2.1.cell 1 rfl;clear hw2)|(go_at_call 202;refine (A3'.out _ X2.out.1).mono ?_;rintro e w3 ⟨rfl,hb3⟩;have X3:Hid (IzAt w3 a r.lists∧Boxed w3 S #[.int .i64 f,.slice a n c] 44∧Below S w w3):=⟨X2.out.1.below hb3,X2.out.2.1.below X2.out.2.1.under hb3,X2.out.2.2.trans (hb3.mono (Nat.le_of_lt X2.out.2.1.under))⟩;have f3:w3.cell? ⟨S,0,none⟩=some (.int .i64 f):=X3.out.2.1.cell 0 rfl;have g3:w3.cell? ⟨S,1,none⟩=some (.slice a n c):=X3.out.2.1.cell 1 rfl;clear hb3)))|fail
  all_goals (
   go_wp2
   go_ret
   exact ⟨ret_bool (by rw [Hok.out];simp),X3.out.2.2⟩)
 rw [decide_eq_true hc] at Hok
 have hc':decide (cnt≤f)=true:=decide_eq_true hc
 cases b4
 ·first|(go_region_with (first|(go_at_call_of 171 (Value.int IntKind.i64 200);refine (A1'.out w0.drew w0.heap.size rfl).mono ?_;rintro e w1 ⟨rfl,hw1⟩;have X1:Hid (IzAt w1 a r.lists∧Boxed w1 S #[.int .i64 f,.slice a n c] 44∧Below S w w1):=(by rw [hw1];exact ⟨X.out.1.drew.alloc _,Boxed.more (w:=w0.drew) X.out.2.1 _,X.out.2.2.drew.alloc (Nat.le_of_lt hl) _⟩);have c1:w1.cell? ⟨S,1,none⟩=some (.slice a n c):=X1.out.2.1.cell 1 rfl;have hl1:S<w1.heap.size:=X1.out.2.1.under;clear hw1)|(go_at_call_of 171 (Value.int IntKind.i64 16);refine (A2'.out _ _ (by simp)).mono ?_;rintro e w2 ⟨rfl,hw2⟩;have X2:Hid (IzAt w2 a r.lists∧Boxed w2 S #[.int .i64 f,.slice a n c] 44∧Below S w w2):=(by rw [hw2];exact ⟨X1.out.1.alloc _,X1.out.2.1.more _,X1.out.2.2.alloc (Nat.le_of_lt X1.out.2.1.under) _⟩);have d0:w2.cell? ⟨S,0,none⟩=some (.int .i64 f):=X2.out.2.1.cell 0 rfl;have d1:w2.cell? ⟨S,1,none⟩=some (.slice a n c):=X2.out.2.1.cell 1 rfl;clear hw2)|(go_at_call 202;refine (A3'.out _ X2.out.1).mono ?_;rintro e w3 ⟨rfl,hb3⟩;have X3:Hid (IzAt w3 a r.lists∧Boxed w3 S #[.int .i64 f,.slice a n c] 44∧Below S w w3):=⟨X2.out.1.below hb3,X2.out.2.1.below X2.out.2.1.under hb3,X2.out.2.2.trans (hb3.mono (Nat.le_of_lt X2.out.2.1.under))⟩;have f3:w3.cell? ⟨S,0,none⟩=some (.int .i64 f):=X3.out.2.1.cell 0 rfl;have g3:w3.cell? ⟨S,1,none⟩=some (.slice a n c):=X3.out.2.1.cell 1 rfl;clear hb3)|(go_at_call 203;refine (A4'.out _ X3.out.1).mono ?_;rintro e w4 ⟨rfl,hb4⟩;have X4:Hid (IzAt w4 a r.lists∧Boxed w4 S #[.int .i64 f,.slice a n c] 44∧Below S w w4):=⟨X3.out.1.below hb4,X3.out.2.1.below X3.out.2.1.under hb4,X3.out.2.2.trans (hb4.mono (Nat.le_of_lt X3.out.2.1.under))⟩;have f4:w4.cell? ⟨S,0,none⟩=some (.int .i64 f):=X4.out.2.1.cell 0 rfl;have g4:w4.cell? ⟨S,1,none⟩=some (.slice a n c):=X4.out.2.1.cell 1 rfl;clear hb4)))|fail
  all_goals (
   go_wp2
   go_ret
   exact ⟨ret_bool (by rw [Hok.out];simp),X4.out.2.2⟩)
 first|(go_region_with (first|(go_at_call_of 171 (Value.int IntKind.i64 200);refine (A1'.out w0.drew w0.heap.size rfl).mono ?_;rintro e w1 ⟨rfl,hw1⟩;have X1:Hid (IzAt w1 a r.lists∧Boxed w1 S #[.int .i64 f,.slice a n c] 44∧Below S w w1):=(by rw [hw1];exact ⟨X.out.1.drew.alloc _,Boxed.more (w:=w0.drew) X.out.2.1 _,X.out.2.2.drew.alloc (Nat.le_of_lt hl) _⟩);have c1:w1.cell? ⟨S,1,none⟩=some (.slice a n c):=X1.out.2.1.cell 1 rfl;have hl1:S<w1.heap.size:=X1.out.2.1.under;clear hw1)|(go_at_call_of 171 (Value.int IntKind.i64 16);refine (A2'.out _ _ (by simp)).mono ?_;rintro e w2 ⟨rfl,hw2⟩;have X2:Hid (IzAt w2 a r.lists∧Boxed w2 S #[.int .i64 f,.slice a n c] 44∧Below S w w2):=(by rw [hw2];exact ⟨X1.out.1.alloc _,X1.out.2.1.more _,X1.out.2.2.alloc (Nat.le_of_lt X1.out.2.1.under) _⟩);have d0:w2.cell? ⟨S,0,none⟩=some (.int .i64 f):=X2.out.2.1.cell 0 rfl;have d1:w2.cell? ⟨S,1,none⟩=some (.slice a n c):=X2.out.2.1.cell 1 rfl;clear hw2)|(go_at_call 202;refine (A3'.out _ X2.out.1).mono ?_;rintro e w3 ⟨rfl,hb3⟩;have X3:Hid (IzAt w3 a r.lists∧Boxed w3 S #[.int .i64 f,.slice a n c] 44∧Below S w w3):=⟨X2.out.1.below hb3,X2.out.2.1.below X2.out.2.1.under hb3,X2.out.2.2.trans (hb3.mono (Nat.le_of_lt X2.out.2.1.under))⟩;have f3:w3.cell? ⟨S,0,none⟩=some (.int .i64 f):=X3.out.2.1.cell 0 rfl;have g3:w3.cell? ⟨S,1,none⟩=some (.slice a n c):=X3.out.2.1.cell 1 rfl;clear hb3)|(go_at_call 203;refine (A4'.out _ X3.out.1).mono ?_;rintro e w4 ⟨rfl,hb4⟩;have X4:Hid (IzAt w4 a r.lists∧Boxed w4 S #[.int .i64 f,.slice a n c] 44∧Below S w w4):=⟨X3.out.1.below hb4,X3.out.2.1.below X3.out.2.1.under hb4,X3.out.2.2.trans (hb4.mono (Nat.le_of_lt X3.out.2.1.under))⟩;have f4:w4.cell? ⟨S,0,none⟩=some (.int .i64 f):=X4.out.2.1.cell 0 rfl;have g4:w4.cell? ⟨S,1,none⟩=some (.slice a n c):=X4.out.2.1.cell 1 rfl;clear hb4)|(go_at_call 204;refine (A5'.out _ (by first|exact trivial|exact rfl) X4.out.1).mono ?_;rintro e w5 ⟨rfl,hb5⟩;have X5:Hid (IzAt w5 a r.lists∧Boxed w5 S #[.int .i64 f,.slice a n c] 44∧Below S w w5):=⟨X4.out.1.below hb5,X4.out.2.1.below X4.out.2.1.under hb5,X4.out.2.2.trans (hb5.mono (Nat.le_of_lt X4.out.2.1.under))⟩;have f5:w5.cell? ⟨S,0,none⟩=some (.int .i64 f):=X5.out.2.1.cell 0 rfl;have g5:w5.cell? ⟨S,1,none⟩=some (.slice a n c):=X5.out.2.1.cell 1 rfl;clear hb5)))|fail
 all_goals (
  go_wp2
  go_ret
  exact ⟨ret_bool (by rw [Hok.out];simp),X5.out.2.2⟩)
end Go.Proofs.YtmfabeghfdoibaaGreat
