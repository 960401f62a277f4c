import Derived.Test.YtmfabeghfdoibaaGreatQT18GtZero
set_option maxHeartbeats 1600000
namespace Go.Proofs.YtmfabeghfdoibaaGreat
open Go.RowKit
def mapTo {α:Type} (f:α→α) (j:Nat) (l:List α):List α:=(l.take j).map f++l.drop j
section
variable {α:Type} {f:α→α} {j:Nat} {l:List α}
theorem mapTo_len:(mapTo f j l).length=l.length:=by
 unfold mapTo
 rw [List.length_append,List.length_map,List.length_take,List.length_drop]
 omega
theorem mapTo_zero:mapTo f 0 l=l:=by simp [mapTo]
theorem mapTo_all:mapTo f l.length l=l.map f:=by simp [mapTo]
theorem mapTo_get (h:j<l.length):(mapTo f j l)[j]? = l[j]? := by
 unfold mapTo
 rw [List.getElem?_append_right (by rw [List.length_map,List.length_take];omega),List.length_map,List.length_take,List.getElem?_drop]
 congr 1
 omega
theorem mapTo_next (h:j<l.length):(mapTo f j l).set j (f l[j])=mapTo f (j+1) l:=by
 unfold mapTo
 rw [List.set_append_right _ _ (by rw [List.length_map,List.length_take];omega),List.length_map,List.length_take,Nat.min_eq_left (Nat.le_of_lt h),Nat.sub_self,List.drop_eq_getElem_cons h,List.set_cons_zero,List.take_succ_eq_append_getElem h,List.map_append,List.append_assoc]
 rfl
end
section
variable {f:It→It} {i k:Nat} {l:List It} {ls:List (List It)}
theorem itAt_mapTo (h:k<l.length):itAt (mapTo f k l) k=itAt l k:=by unfold itAt;rw [mapTo_get h]
theorem mapTo_it (h:k<l.length):(mapTo f k l).set k (f (itAt l k))=mapTo f (k+1) l:=by rw [itAt_lt h];exact mapTo_next h
def mapIn (f:It→It) (i k:Nat) (ls:List (List It)):List (List It):=(mapTo (List.map f) i ls).set i (mapTo f k (izAt ls i))
theorem mapIn_len:(mapIn f i k ls).length=ls.length:=by unfold mapIn;rw [List.length_set,mapTo_len]
theorem mapIn_at (h:i<ls.length):izAt (mapIn f i k ls) i=mapTo f k (izAt ls i):=by
 unfold mapIn izAt
 rw [List.getElem?_set_self (by rw [mapTo_len];exact h)]
 rfl
theorem mapIn_zero (h:i<ls.length):mapIn f i 0 ls=mapTo (List.map f) i ls:=by
 unfold mapIn
 rw [mapTo_zero]
 have e:=mapTo_get (f:=List.map f) h
 have hl:i<(mapTo (List.map f) i ls).length:=by rw [mapTo_len];exact h
 rw [List.getElem?_eq_getElem hl,List.getElem?_eq_getElem h] at e
 have e2:izAt ls i=(mapTo (List.map f) i ls)[i]:=by rw [izAt_lt h];exact (Option.some.inj e).symm
 rw [e2,List.set_getElem_self]
theorem mapIn_next (h:i<ls.length) (hk:k<(izAt ls i).length):(mapIn f i k ls).set i ((izAt (mapIn f i k ls) i).set k (f (itAt (izAt ls i) k)))=mapIn f i (k+1) ls:=by
 rw [mapIn_at h,mapTo_it hk]
 unfold mapIn
 rw [List.set_set]
theorem mapIn_end (h:i<ls.length):mapIn f i (izAt ls i).length ls=mapTo (List.map f) (i+1) ls:=by
 unfold mapIn
 rw [mapTo_all,izAt_lt h]
 exact mapTo_next (f:=List.map f) h
theorem izAt_maps (h:i<ls.length):izAt (ls.map (List.map f)) i=(izAt ls i).map f:=by
 unfold izAt
 rw [List.getElem?_map,List.getElem?_eq_getElem h]
 rfl
theorem itAt_maps (h:k<l.length):itAt (l.map f) k=f (itAt l k):=by
 unfold itAt
 rw [List.getElem?_map,List.getElem?_eq_getElem h]
 rfl
theorem izAt_mapTo (h:i<ls.length):izAt (mapTo (List.map f) i ls) i=izAt ls i:=by unfold izAt;rw [mapTo_get h]
end
def insK (xs:List Int) (x:Int):Nat:=xs.findIdx fun y => !decide (y<x)
def insI (xs:List Int) (x:Int):List Int:=if xs[insK xs x]? = some x then xs else xs.take (insK xs x)++[x]++xs.drop (insK xs x)
theorem insI_mem {xs:List Int} {x z:Int}:z∈insI xs x↔z=x∨z∈xs:=by
 unfold insI
 by_cases h:xs[insK xs x]? = some x
 ·rw [if_pos h]
  constructor
  ·exact .inr
  ·rintro (rfl|h2)
   ·exact List.mem_of_getElem? h
   ·exact h2
 ·rw [if_neg h]
  have e:z∈xs↔z∈xs.take (insK xs x)∨z∈xs.drop (insK xs x):=by
   conv=>lhs;rw [← List.take_append_drop (insK xs x) xs]
   rw [List.mem_append]
  rw [e]
  simp only [List.mem_append,List.mem_singleton]
  constructor
  ·rintro ((h|h)|h)
   ·exact .inr (.inl h)
   ·exact .inl h
   ·exact .inr (.inr h)
  ·rintro (h|h|h)
   ·exact .inl (.inr h)
   ·exact .inl (.inl h)
   ·exact .inr h
theorem insI_len (xs:List Int) (x:Int):(insI xs x).length≤xs.length+1:=by
 unfold insI
 split
 ·omega
 ·simp;omega
theorem IRow.some {base:Nat} {w:World} {v:Value} {l:List Int} (h:IRow base w v l) (hv:v ≠ .slice .none 0 0):∃ g cap,v = .slice (.some ⟨g,0,.none⟩) l.length cap∧l.length≤cap:=by
 rcases h.2 with ⟨e,_⟩|⟨g,cap,cur,e,_,_,h3,_⟩
 ·exact absurd e hv
 ·exact ⟨g,cap,e,h3⟩
theorem IRow.cell {base:Nat} {w:World} {g n cap:Nat} {l:List Int} (hn:l.length=n) (h:IRow base w (.slice (.some ⟨g,0,.none⟩) n cap) l) (k:Nat) (hk:k<n):w.cell? ⟨g,k,.none⟩ = .some (.int .i64 (l[k]?.getD 0)):=by
 subst hn
 obtain ⟨b,off,e,_,hc⟩:=h.ints k hk
 cases e
 rwa [Nat.zero_add] at hc
theorem specPutI (base g cap:Nat) (xs:List Int) (x:Int) (w:World) (hT:xs.length≤1024) (h1:1≤xs.length) (hcap:xs.length≤cap) (hb:base≤w.heap.size) (h:Hid (IRow base w (.slice (some ⟨g,0,none⟩) xs.length cap) xs)) :
 Calls Tryz.prog 62 #[.slice (some ⟨g,0,none⟩) xs.length cap,.int .i64 x] w fun e w'=>(∃ v',e = .returned v'∧IRow base w' v' (insI xs x)∧v' ≠ .slice none 0 0)∧Below w.heap.size w w':=by
 obtain ⟨K,hK⟩:∃ K,insK xs x=K:=⟨_,rfl⟩
 obtain ⟨len,hlen⟩:∃ n,xs.length=n:=⟨_,rfl⟩
 have Hlen:Hid (xs.length=len):=hlen
 have HK:Hid (insK xs x=K):=hK
 have hKl:K≤len:=by rw [← hK,← hlen];exact List.findIdx_le_length
 have HI:Hid (insI xs x=if xs[K]? = some x then xs else xs.take K++[x]++xs.drop K):=by show insI xs x=_;unfold insI;rw [hK]
 rw [hlen] at hT hcap h h1 ⊢
 have HC:Hid (∀ k,k<len→w.cell? ⟨g,k,none⟩=some (.int .i64 (xs[k]?.getD 0))):=fun k hk=>IRow.cell Hlen.out h.out k hk
 have H1:Hid (∀ k,k<K→(xs[k]?.getD 0)<x):=by
  intro k hk
  have hkl:k<xs.length:=by rw [Hlen.out];omega
  have:=List.not_of_lt_findIdx (p:=fun y => !decide (y<x)) (xs:=xs) (i:=k) (by rw [show xs.findIdx (fun y => !decide (y<x))=K from HK.out];exact hk)
  rw [List.getElem?_eq_getElem hkl,Option.getD_some]
  simpa using this
 have H2:Hid (K<len→¬ (xs[K]?.getD 0)<x):=by
  intro hk
  have hkl:K<xs.length:=by rw [Hlen.out];omega
  have:=List.findIdx_getElem (p:=fun y => !decide (y<x)) (xs:=xs) (w:=by rw [show xs.findIdx (fun y => !decide (y<x))=K from HK.out];exact hkl)
  rw [List.getElem?_eq_getElem hkl,Option.getD_some]
  have h3:(!decide (xs[K]<x))=true:=by
   simpa only [show xs.findIdx (fun y => !decide (y<x))=K from HK.out] using this
  simpa using h3
 clear hK hlen
 go_enter Tryz.func62,Tryz.ntmps62
 go_wp2
 go_loopw [5] (fun i wr=>∃ k:Nat,k≤K∧i = .int .i64 k∧wr=w) (fun i _=>len-(intOf i).toNat)
 case atStart=>exact ⟨0,Nat.zero_le _,rfl,rfl⟩
 case round =>
  obtain ⟨k,hk,rfl,hw⟩:=hrel
  have hw':=hw.symm
  subst hw'
  clear hw
  by_cases hkK:k<K
  ·have c0:=HC.out k (by omega)
   have hl:=H1.out k hkK
   generalize xs[k]?.getD 0=y at c0 hl
   have hkl':(k:Int)<(len:Int):=by omega
   go_wp2
   go_roundw
   case rel=>exact ⟨k+1,by omega,by go_num,trivial⟩
   case measure=>simp [intOf];omega
  ·obtain rfl:k=K:=by omega
   by_cases hkl:k<len
   ·have c0:=HC.out k hkl
    have hl:=H2.out hkl
    have hkl':(k:Int)<(len:Int):=by omega
    have hkL:k<xs.length:=by rw [Hlen.out];exact hkl
    have e0:xs[k]? = some (xs[k]?.getD 0):=by rw [List.getElem?_eq_getElem hkL];rfl
    have HI2:=HI.out
    rw [e0] at HI2
    generalize xs[k]?.getD 0=y at c0 hl HI2 e0
    have hge:¬ y<x:=by omega
    by_cases hy:y=x
    ·subst hy
     rw [if_pos rfl] at HI2
     have HI3:Hid (insI xs y=xs):=HI2
     clear HI2 e0 HI hkL
     go_wp2
     go_ret
     exact ⟨⟨_,rfl,by rw [HI3.out];exact h.out,by intro e;cases e⟩,Below.refl _ _⟩
    ·rw [if_neg (by simpa using hy)] at HI2
     have HI3:Hid (insI xs x=xs.take k++[x]++xs.drop k):=HI2
     have hck:¬ cap=k:=by omega
     clear HI2 e0 HI hkL
     have hgl:=(h.out.lt g rfl).2
     have HD:Hid ((xs.drop k).length=len-k):=by show (xs.drop k).length=_;rw [List.length_drop,Hlen.out];try omega
     have HT1:Hid ((xs.take k).length=k):=by show (xs.take k).length=_;rw [List.length_take,Hlen.out];omega
     have HCd:Hid (∀ j,j<len-k→w.cell? ⟨g,k+j,none⟩=some (.int .i64 ((xs.drop k)[j]?.getD 0))):=by
      intro j hj
      rw [List.getElem?_drop];exact HC.out (k+j) (by omega)
     have HCt:Hid (∀ j,j<k→w.cell? ⟨g,0+j,none⟩=some (.int .i64 ((xs.take k)[j]?.getD 0))):=by
      intro j hj
      rw [List.getElem?_take,if_pos hj,Nat.zero_add]
      exact HC.out j (by omega)
     go_wp2_with (at_builtin;refine row_iapp rfl (.tmp 34) (.tmp 37) rfl w.heap.size _ [] _ _ _ _ (xs.drop k) HD.out rfl rfl (irow_built _ _ nlr) (fun j hj=>by rw [((Below.refl w.heap.size w).alloc nlr _).cell (p:=⟨g,k+j,none⟩) hgl];exact HCd.out j hj) (by rw [HD.out];simp;omega) (by simp) ?_)
     intro vr w2 r2 b2 _ n2
     have r2':IRow w.heap.size w2 vr (xs.drop k):=by simpa using r2
     obtain ⟨gr,cr,hvr,hcr⟩:=IRow.some r2' (fun e=>by have:=n2 e;cases this)
     rw [HD.out] at hvr
     have B2:Hid (Below w.heap.size w w2∧IRow w.heap.size w2 (.slice (some ⟨gr,0,none⟩) (len-k) cr) (xs.drop k)):=⟨((Below.refl _ w).alloc nlr _).trans b2,by rw [hvr] at r2';exact r2'⟩
     subst hvr
     clear r2 r2' b2 n2 hcr
     have hgl2:g<w2.heap.size:=Nat.lt_of_lt_of_le hgl B2.out.1.size
     go_wp2_with (at_builtin;refine row_iapp rfl (.tmp 39) (.tmp 42) rfl w2.heap.size _ [] _ _ _ _ (xs.take k) HT1.out rfl rfl (irow_built _ _ nlr) (fun j hj=>by rw [((Below.refl w2.heap.size w2).alloc nlr _).cell (p:=⟨g,0+j,none⟩) hgl2,B2.out.1.cell (p:=⟨g,0+j,none⟩) hgl];exact HCt.out j hj) (by rw [HT1.out];simp;omega) (by simp) ?_)
     intro v3 w3 r3 b3 _ n3
     have B3:Hid (Below w2.heap.size w2 w3∧IRow w2.heap.size w3 v3 (xs.take k)∧v3 ≠ .slice none 0 0):=⟨((Below.refl _ w2).alloc nlr _).trans b3,by simpa using r3,fun e=>by have:=n3 e;cases this⟩
     clear r3 b3 n3
     have hs3:=B3.out.1.size
     go_wp2_with (at_builtin;refine row_iapp rfl (.tmp 43) (.tmp 45) rfl w2.heap.size _ (xs.take k) _ _ 1 1 [x] rfl rfl rfl (B3.out.2.1.alloc _) (by intro q hq;obtain rfl:q=0:=(by omega);simp) (by rw [HT1.out];simp;omega) (by simp;omega) ?_)
     intro v4 w4 r4 b4 _ n4
     have B4:Hid (Below w2.heap.size w2 w4∧IRow w2.heap.size w4 v4 (xs.take k++[x])∧v4 ≠ .slice none 0 0):=⟨(B3.out.1.alloc hs3 _).trans b4,r4,fun e=>B3.out.2.2 (n4 e)⟩
     clear r4 b4 n4 B3
     have hs4:=B4.out.1.size
     have HR4:Hid (∀ j,j<len-k→w4.cell? ⟨gr,0+j,none⟩=some (.int .i64 ((xs.drop k)[j]?.getD 0))):=by
      intro j hj
      rw [Nat.zero_add]
      exact IRow.cell HD.out (B2.out.2.below (fun q hq=>(B2.out.2.lt q hq).2) B4.out.1) j hj
     go_wp2_with (at_builtin;refine row_iapp rfl (.tmp 46) (.tmp 47) rfl w2.heap.size _ (xs.take k++[x]) _ _ _ _ (xs.drop k) HD.out rfl rfl B4.out.2.1 HR4.out (by rw [HD.out,List.length_append,HT1.out];simp;omega) (by omega) ?_)
     intro v5 w5 r5 b5 _ n5
     have B5:Hid (IRow base w5 v5 (insI xs x)∧v5 ≠ .slice none 0 0∧Below w.heap.size w w5):=⟨by rw [HI3.out];exact IRow.mono (base:=w2.heap.size) (by simpa using r5) (Nat.le_trans hb B2.out.1.size),fun e=>B4.out.2.2 (n5 e),B2.out.1.trans ((B4.out.1.trans b5).mono B2.out.1.size)⟩
     clear r5 b5 n5 B4
     go_wp2
     go_ret
     exact ⟨⟨_,rfl,B5.out.1,B5.out.2.1⟩,B5.out.2.2⟩
   ·obtain rfl:k=len:=by omega
    have HI3:Hid (insI xs x=xs.take k++[x]++xs.drop k):=by
     show insI xs x=_
     rw [HI.out,if_neg]
     rw [List.getElem?_eq_none (by rw [Hlen.out];exact Nat.le_refl _)]
     simp
    clear HI
    by_cases hck:cap=k
    ·subst hck
     have hgl:=(h.out.lt g rfl).2
     have HD:Hid ((xs.drop cap).length=0):=by show (xs.drop cap).length=_;rw [List.length_drop,Hlen.out];try omega
     have HT1:Hid ((xs.take cap).length=cap):=by show (xs.take cap).length=_;rw [List.length_take,Hlen.out];omega
     have HCd:Hid (∀ j,j<0→w.cell? ⟨g,0+j,none⟩=some (.int .i64 ((xs.drop cap)[j]?.getD 0))):=by
      intro j hj
      omega
     have HCt:Hid (∀ j,j<cap→w.cell? ⟨g,0+j,none⟩=some (.int .i64 ((xs.take cap)[j]?.getD 0))):=by
      intro j hj
      rw [List.getElem?_take,if_pos hj,Nat.zero_add]
      exact HC.out j (by omega)
     go_wp2_with (at_builtin;refine row_iapp rfl (.tmp 34) (.tmp 37) rfl w.heap.size _ [] _ _ _ _ (xs.drop cap) HD.out rfl rfl (irow_built _ _ nlr) (fun j hj=>by rw [((Below.refl w.heap.size w).alloc nlr _).cell (p:=⟨g,0+j,none⟩) hgl];exact HCd.out j hj) (by rw [HD.out];simp) (by simp) ?_)
     intro vr w2 r2 b2 _ n2
     have r2':IRow w.heap.size w2 vr (xs.drop cap):=by simpa using r2
     obtain ⟨gr,cr,hvr,hcr⟩:=IRow.some r2' (fun e=>by have:=n2 e;cases this)
     rw [HD.out] at hvr
     have B2:Hid (Below w.heap.size w w2∧IRow w.heap.size w2 (.slice (some ⟨gr,0,none⟩) (0) cr) (xs.drop cap)):=⟨((Below.refl _ w).alloc nlr _).trans b2,by rw [hvr] at r2';exact r2'⟩
     subst hvr
     clear r2 r2' b2 n2 hcr
     have hgl2:g<w2.heap.size:=Nat.lt_of_lt_of_le hgl B2.out.1.size
     go_wp2_with (at_builtin;refine row_iapp rfl (.tmp 39) (.tmp 42) rfl w2.heap.size _ [] _ _ _ _ (xs.take cap) HT1.out rfl rfl (irow_built _ _ nlr) (fun j hj=>by rw [((Below.refl w2.heap.size w2).alloc nlr _).cell (p:=⟨g,0+j,none⟩) hgl2,B2.out.1.cell (p:=⟨g,0+j,none⟩) hgl];exact HCt.out j hj) (by rw [HT1.out];simp;omega) (by simp) ?_)
     intro v3 w3 r3 b3 _ n3
     have B3:Hid (Below w2.heap.size w2 w3∧IRow w2.heap.size w3 v3 (xs.take cap)∧v3 ≠ .slice none 0 0):=⟨((Below.refl _ w2).alloc nlr _).trans b3,by simpa using r3,fun e=>by have:=n3 e;cases this⟩
     clear r3 b3 n3
     have hs3:=B3.out.1.size
     go_wp2_with (at_builtin;refine row_iapp rfl (.tmp 43) (.tmp 45) rfl w2.heap.size _ (xs.take cap) _ _ 1 1 [x] rfl rfl rfl (B3.out.2.1.alloc _) (by intro q hq;obtain rfl:q=0:=(by omega);simp) (by rw [HT1.out];simp;omega) (by simp;omega) ?_)
     intro v4 w4 r4 b4 _ n4
     have B4:Hid (Below w2.heap.size w2 w4∧IRow w2.heap.size w4 v4 (xs.take cap++[x])∧v4 ≠ .slice none 0 0):=⟨(B3.out.1.alloc hs3 _).trans b4,r4,fun e=>B3.out.2.2 (n4 e)⟩
     clear r4 b4 n4 B3
     have hs4:=B4.out.1.size
     have HR4:Hid (∀ j,j<0→w4.cell? ⟨gr,0+j,none⟩=some (.int .i64 ((xs.drop cap)[j]?.getD 0))):=by
      intro j hj
      rw [Nat.zero_add]
      exact IRow.cell HD.out (B2.out.2.below (fun q hq=>(B2.out.2.lt q hq).2) B4.out.1) j hj
     go_wp2_with (at_builtin;refine row_iapp rfl (.tmp 46) (.tmp 47) rfl w2.heap.size _ (xs.take cap++[x]) _ _ _ _ (xs.drop cap) HD.out rfl rfl B4.out.2.1 HR4.out (by rw [HD.out,List.length_append,HT1.out];simp;omega) (by omega) ?_)
     intro v5 w5 r5 b5 _ n5
     have B5:Hid (IRow base w5 v5 (insI xs x)∧v5 ≠ .slice none 0 0∧Below w.heap.size w w5):=⟨by rw [HI3.out];exact IRow.mono (base:=w2.heap.size) (by simpa using r5) (Nat.le_trans hb B2.out.1.size),fun e=>B4.out.2.2 (n5 e),B2.out.1.trans ((B4.out.1.trans b5).mono B2.out.1.size)⟩
     clear r5 b5 n5 B4
     go_wp2
     go_ret
     exact ⟨⟨_,rfl,B5.out.1,B5.out.2.1⟩,B5.out.2.2⟩
    ·skip
     have hgl:=(h.out.lt g rfl).2
     have HD:Hid ((xs.drop k).length=0):=by show (xs.drop k).length=_;rw [List.length_drop,Hlen.out];try omega
     have HT1:Hid ((xs.take k).length=k):=by show (xs.take k).length=_;rw [List.length_take,Hlen.out];omega
     have HCd:Hid (∀ j,j<0→w.cell? ⟨g,k+j,none⟩=some (.int .i64 ((xs.drop k)[j]?.getD 0))):=by
      intro j hj
      omega
     have HCt:Hid (∀ j,j<k→w.cell? ⟨g,0+j,none⟩=some (.int .i64 ((xs.take k)[j]?.getD 0))):=by
      intro j hj
      rw [List.getElem?_take,if_pos hj,Nat.zero_add]
      exact HC.out j (by omega)
     go_wp2_with (at_builtin;refine row_iapp rfl (.tmp 34) (.tmp 37) rfl w.heap.size _ [] _ _ _ _ (xs.drop k) HD.out rfl rfl (irow_built _ _ nlr) (fun j hj=>by rw [((Below.refl w.heap.size w).alloc nlr _).cell (p:=⟨g,k+j,none⟩) hgl];exact HCd.out j hj) (by rw [HD.out];simp) (by simp) ?_)
     intro vr w2 r2 b2 _ n2
     have r2':IRow w.heap.size w2 vr (xs.drop k):=by simpa using r2
     obtain ⟨gr,cr,hvr,hcr⟩:=IRow.some r2' (fun e=>by have:=n2 e;cases this)
     rw [HD.out] at hvr
     have B2:Hid (Below w.heap.size w w2∧IRow w.heap.size w2 (.slice (some ⟨gr,0,none⟩) (0) cr) (xs.drop k)):=⟨((Below.refl _ w).alloc nlr _).trans b2,by rw [hvr] at r2';exact r2'⟩
     subst hvr
     clear r2 r2' b2 n2 hcr
     have hgl2:g<w2.heap.size:=Nat.lt_of_lt_of_le hgl B2.out.1.size
     go_wp2_with (at_builtin;refine row_iapp rfl (.tmp 39) (.tmp 42) rfl w2.heap.size _ [] _ _ _ _ (xs.take k) HT1.out rfl rfl (irow_built _ _ nlr) (fun j hj=>by rw [((Below.refl w2.heap.size w2).alloc nlr _).cell (p:=⟨g,0+j,none⟩) hgl2,B2.out.1.cell (p:=⟨g,0+j,none⟩) hgl];exact HCt.out j hj) (by rw [HT1.out];simp;omega) (by simp) ?_)
     intro v3 w3 r3 b3 _ n3
     have B3:Hid (Below w2.heap.size w2 w3∧IRow w2.heap.size w3 v3 (xs.take k)∧v3 ≠ .slice none 0 0):=⟨((Below.refl _ w2).alloc nlr _).trans b3,by simpa using r3,fun e=>by have:=n3 e;cases this⟩
     clear r3 b3 n3
     have hs3:=B3.out.1.size
     go_wp2_with (at_builtin;refine row_iapp rfl (.tmp 43) (.tmp 45) rfl w2.heap.size _ (xs.take k) _ _ 1 1 [x] rfl rfl rfl (B3.out.2.1.alloc _) (by intro q hq;obtain rfl:q=0:=(by omega);simp) (by rw [HT1.out];simp;omega) (by simp;omega) ?_)
     intro v4 w4 r4 b4 _ n4
     have B4:Hid (Below w2.heap.size w2 w4∧IRow w2.heap.size w4 v4 (xs.take k++[x])∧v4 ≠ .slice none 0 0):=⟨(B3.out.1.alloc hs3 _).trans b4,r4,fun e=>B3.out.2.2 (n4 e)⟩
     clear r4 b4 n4 B3
     have hs4:=B4.out.1.size
     have HR4:Hid (∀ j,j<0→w4.cell? ⟨gr,0+j,none⟩=some (.int .i64 ((xs.drop k)[j]?.getD 0))):=by
      intro j hj
      rw [Nat.zero_add]
      exact IRow.cell HD.out (B2.out.2.below (fun q hq=>(B2.out.2.lt q hq).2) B4.out.1) j hj
     go_wp2_with (at_builtin;refine row_iapp rfl (.tmp 46) (.tmp 47) rfl w2.heap.size _ (xs.take k++[x]) _ _ _ _ (xs.drop k) HD.out rfl rfl B4.out.2.1 HR4.out (by rw [HD.out,List.length_append,HT1.out];simp;omega) (by omega) ?_)
     intro v5 w5 r5 b5 _ n5
     have B5:Hid (IRow base w5 v5 (insI xs x)∧v5 ≠ .slice none 0 0∧Below w.heap.size w w5):=⟨by rw [HI3.out];exact IRow.mono (base:=w2.heap.size) (by simpa using r5) (Nat.le_trans hb B2.out.1.size),fun e=>B4.out.2.2 (n5 e),B2.out.1.trans ((B4.out.1.trans b5).mono B2.out.1.size)⟩
     clear r5 b5 n5 B4
     go_wp2
     go_ret
     exact ⟨⟨_,rfl,B5.out.1,B5.out.2.1⟩,B5.out.2.2⟩
theorem insI_rise {xs:List Int} (h:xs.Pairwise (· < ·)) (x:Int):(insI xs x).Pairwise (· < ·):=by
 by_cases hx:xs[insK xs x]? = some x
 ·have e:insI xs x=xs:=by unfold insI;rw [if_pos hx]
  rw [e];exact h
 ·have e:insI xs x=xs.take (insK xs x)++[x]++xs.drop (insK xs x):=by unfold insI;rw [if_neg hx]
  rw [e]
  have hlt:∀ y∈xs.take (insK xs x),y<x:=by
   intro y hy
   obtain ⟨j,hj,rfl⟩:=List.mem_iff_getElem.1 hy
   rw [List.length_take] at hj
   have:=List.not_of_lt_findIdx (p:=fun y => !decide (y<x)) (xs:=xs) (i:=j) (by unfold insK at hj;omega)
   rw [List.getElem_take]
   simpa using this
  have hgt:∀ y∈xs.drop (insK xs x),x<y:=by
   intro y hy
   by_cases hk:insK xs x<xs.length
   ·have h0:¬ xs[insK xs x]<x:=by
     have this:(!decide (xs[insK xs x]<x))=true:=List.findIdx_getElem (p:=fun y => !decide (y<x)) (xs:=xs) (w:=hk)
     simpa using this
    have h1:xs[insK xs x]≠x:=fun e=>hx (by rw [List.getElem?_eq_getElem hk,e])
    rw [List.drop_eq_getElem_cons hk] at hy
    rcases List.mem_cons.1 hy with rfl|hy
    ·omega
    ·have hd:(xs[insK xs x] :: xs.drop (insK xs x+1)).Pairwise (· < ·):=by rw [← List.drop_eq_getElem_cons hk];exact h.sublist (List.drop_sublist _ _)
     have:=(List.pairwise_cons.1 hd).1 y hy
     omega
   ·rw [List.drop_of_length_le (by omega)] at hy
    cases hy
  rw [List.append_assoc,List.pairwise_append]
  refine ⟨h.sublist (List.take_sublist _ _),?_,?_⟩
  ·rw [List.singleton_append,List.pairwise_cons]
   exact ⟨hgt,h.sublist (List.drop_sublist _ _)⟩
  ·intro a ha b hb
   rw [List.singleton_append] at hb
   rcases List.mem_cons.1 hb with rfl|hb
   ·exact hlt a ha
   ·have:=hlt a ha;have:=hgt b hb;omega
def nmv (n:Int) (x:Nd):Nd:=⟨x.up,⟨x.pz.rate,x.pz.burst,x.pz.level,x.pz.tm+n⟩⟩
def imv (n:Int) (x:It):It:=⟨x.id,x.size,x.tm+n⟩
def Gt.mv (g:Gt) (n:Int):Gt:={ g with tree:=g.tree.map (nmv n),rows:=⟨g.rows.most,g.rows.lists.map (List.map (imv n))⟩ }
def Gt.movedB (g:Gt) (n:Int):Bool:=g.ok&&(inB 0 1099511627776 n&&(g.mv n).ok)
def Gt.moved (g:Gt) (n:Int):Gt:=if g.movedB n=true then g.mv n else Gt.zero
def tmsOf (t:Int) (l:List It):List Int:=l.foldl (fun xs x=>insI xs x.tm) [t]
def Gt.times (g:Gt):List Int:=if g.ok=true then tmsOf (ndAt g.tree 0).pz.tm g.rows.all else []
theorem tmsOf_nil (t:Int):tmsOf t []=[t]:=rfl
theorem tmsOf_snoc (t:Int) (l:List It) (x:It):tmsOf t (l++[x])=insI (tmsOf t l) x.tm:=by
 unfold tmsOf
 rw [List.foldl_append]
 rfl
theorem list_snoc {P:List It→Prop} (h0:P []) (h1:∀ l x,P l→P (l++[x])) (l:List It):P l:=by
 have h:∀ m:List It,P m.reverse:=fun m=>by
  induction m with
  |nil=>exact h0
  |cons x m ih=>rw [List.reverse_cons];exact h1 _ x ih
 have:=h l.reverse
 rwa [List.reverse_reverse] at this
theorem tmsOf_rise (t:Int) (l:List It):(tmsOf t l).Pairwise (· < ·):=by
 refine list_snoc (P:=fun l=>(tmsOf t l).Pairwise (· < ·)) (by rw [tmsOf_nil];simp) (fun l x h=>?_) l
 rw [tmsOf_snoc]
 exact insI_rise h _
theorem tmsOf_mem (t:Int) (l:List It) (y:Int):y∈tmsOf t l↔y=t∨∃ x,x∈l∧x.tm=y:=by
 refine list_snoc (P:=fun l=>y∈tmsOf t l↔y=t∨∃ x,x∈l∧x.tm=y) (by rw [tmsOf_nil];simp) (fun l x h=>?_) l
 rw [tmsOf_snoc,insI_mem,h]
 constructor
 ·rintro (e|e|⟨z,hz,e⟩)
  ·exact .inr ⟨x,by simp,e.symm⟩
  ·exact .inl e
  ·exact .inr ⟨z,List.mem_append_left _ hz,e⟩
 ·rintro (e|⟨z,hz,e⟩)
  ·exact .inr (.inl e)
  ·rcases List.mem_append.1 hz with hz|hz
   ·exact .inr (.inr ⟨z,hz,e⟩)
   ·rw [List.mem_singleton.1 hz] at e
    exact .inl e.symm
theorem tmsOf_len (t:Int) (l:List It):1≤(tmsOf t l).length∧(tmsOf t l).length≤l.length+1:=by
 refine list_snoc (P:=fun l=>1≤(tmsOf t l).length∧(tmsOf t l).length≤l.length+1) (by rw [tmsOf_nil];simp) (fun l x h=>?_) l
 rw [tmsOf_snoc,List.length_append,List.length_singleton]
 have h1:=insI_len (tmsOf t l) x.tm
 have h2:1≤(insI (tmsOf t l) x.tm).length:=by
  rcases Nat.eq_zero_or_pos (insI (tmsOf t l) x.tm).length with e|e
  ·have hm:x.tm∈insI (tmsOf t l) x.tm:=insI_mem.2 (.inl rfl)
   rw [List.length_eq_zero_iff.1 e] at hm
   cases hm
  ·exact e
 omega
def lastI (l:List Int):Int:=l[l.length-1]?.getD 0
theorem lastI_mem {l:List Int} (h:1≤l.length):lastI l∈l:=by
 unfold lastI
 rw [List.getElem?_eq_getElem (by omega)]
 exact List.getElem_mem _
theorem lastI_le {l:List Int} (h:l.Pairwise (· < ·)):∀ y,y∈l→y≤lastI l:=by
 intro y hy
 obtain ⟨j,hj,rfl⟩:=List.mem_iff_getElem.1 hy
 unfold lastI
 rw [List.getElem?_eq_getElem (by omega)]
 show l[j]≤l[l.length-1]
 by_cases e:j=l.length-1
 ·subst e
  exact Int.le_refl _
 ·have:=List.pairwise_iff_getElem.1 h j (l.length-1) hj (by omega) (by omega)
  omega
theorem ndAt_map {l:List Nd} {n:Int} {k:Nat} (h:k<l.length):ndAt (l.map (nmv n)) k=nmv n (ndAt l k):=by
 unfold ndAt
 rw [List.getElem?_map,List.getElem?_eq_getElem h]
 rfl
theorem all_map (g:Gt) (n:Int):(g.mv n).rows.all=g.rows.all.map (imv n):=by
 unfold Rw.all Gt.mv
 simp only
 rw [List.map_flatten]
theorem mv_ok {g:Gt} {n:Int} (h:g.ok=true) (hn:inB 0 1099511627776 n=true):(g.mv n).ok=inB 0 1099511627776 (lastI g.times+n):=by
 have n0:=inB_true.1 hn
 have et:g.times=tmsOf (ndAt g.tree 0).pz.tm g.rows.all:=by unfold Gt.times;rw [if_pos h]
 obtain ⟨hd,lf⟩:=Gt.ok_iff.1 h
 obtain ⟨a1,a2,a3,a4,a5,a6,a7,a8,a9,a10,a11⟩:=Gt.head_iff.1 hd
 obtain ⟨t1,t2,t3⟩:=tok_iff.1 a4
 obtain ⟨r1,r2,r3,r4,r5⟩:=Rw.ok_iff.1 a6
 have hz:=(Pz.ok_iff.1 (treeB_iff.1 (t3 0 (by omega))).1).2.2.2
 have hit:∀ x,x∈g.rows.all→(1≤x.id∧x.id≤1000000)∧(1≤x.size∧x.size≤100000)∧0≤x.tm∧x.tm≤1099511627776:=fun x hx=>by
  have:=r3 x hx
  unfold It.ok at this
  simp only [Bool.and_eq_true,inB_true] at this
  exact this
 have mem:=tmsOf_mem (ndAt g.tree 0).pz.tm g.rows.all
 rw [← et] at mem
 have hl:lastI g.times∈g.times:=lastI_mem (by rw [et];exact (tmsOf_len _ _).1)
 have hle:∀ y,y∈g.times→y≤lastI g.times:=lastI_le (by rw [et];exact tmsOf_rise _ _)
 have hall:inB 0 1099511627776 (lastI g.times+n)=true↔((ndAt g.tree 0).pz.tm+n≤1099511627776∧∀ x,x∈g.rows.all→x.tm+n≤1099511627776):=by
  rw [inB_true]
  constructor
  ·rintro ⟨_,b⟩
   refine ⟨by have:=hle _ ((mem _).2 (.inl rfl));omega,fun x hx=>?_⟩
   have:=hle _ ((mem _).2 (.inr ⟨x,hx,rfl⟩))
   omega
  ·rintro ⟨b,c⟩
   rcases (mem _).1 hl with e|⟨x,hx,e⟩
   ·rw [e];omega
   ·have:=c x hx
    have:=hit x hx
    rw [← e]
    omega
 rw [Bool.eq_iff_iff,hall]
 have hN:∀ k,k<g.tree.length→ndAt (g.mv n).tree k=nmv n (ndAt g.tree k):=fun k hk=>ndAt_map hk
 have hL:(g.mv n).tree.length=g.tree.length:=List.length_map ..
 constructor
 ·intro h2
  obtain ⟨b1,b2,b3,b4,b5,b6,-⟩:=Gt.head_iff.1 (Gt.ok_iff.1 h2).1
  have p:=(Pz.ok_iff.1 (treeB_iff.1 ((tok_iff.1 b4).2.2 0 (by omega))).1).2.2.2
  rw [hN 0 (by omega)] at p
  refine ⟨p.2,fun x hx=>?_⟩
  have:=(Rw.ok_iff.1 b6).2.2.1 (imv n x) (by rw [all_map];exact List.mem_map_of_mem hx)
  unfold It.ok at this
  simp only [Bool.and_eq_true,inB_true] at this
  exact this.2.2.2
 ·rintro ⟨c1,c2⟩
  refine Gt.ok_iff.2 ⟨Gt.head_iff.2 ⟨a1,a2,a3,?_,a5,?_,by show (g.rows.lists.map _).length=g.leaves.length;rw [List.length_map];exact a7,a8,a9,a10,a11⟩,fun i hi=>?_⟩
  ·refine tok_iff.2 ⟨by rw [hL];exact t1,by rw [hL];exact t2,fun k hk=>?_⟩
   rw [hL] at hk
   obtain ⟨d1,d2,d3,d4⟩:=treeB_iff.1 (t3 k hk)
   obtain ⟨e1,e2,e3,e4⟩:=Pz.ok_iff.1 d1
   rw [treeB_iff,hN k hk,hN 0 (by omega)]
   refine ⟨Pz.ok_iff.2 ⟨e1,e2,e3,?_⟩,by show _+n=_+n;rw [d2],d3,d4⟩
   show 0≤(ndAt g.tree k).pz.tm+n∧(ndAt g.tree k).pz.tm+n≤1099511627776
   rw [d2]
   omega
  ·refine Rw.ok_iff.2 ⟨r1,by show 1≤(g.rows.lists.map _).length∧(g.rows.lists.map _).length≤16;rw [List.length_map];exact r2,?_,?_,?_⟩
   ·rw [all_map]
    intro y hy
    obtain ⟨x,hx,rfl⟩:=List.mem_map.1 hy
    obtain ⟨f1,f2,f3⟩:=hit x hx
    have:=c2 x hx
    unfold It.ok imv
    simp only [Bool.and_eq_true,inB_true]
    omega
   ·rw [all_map,List.map_map]
    exact r4
   ·rw [all_map,List.length_map]
    exact r5
  ·have q:=Gt.leaf_iff.1 (lf i hi)
   have hi5:i<g.rows.lists.length:=by rw [a7];exact hi
   have ez:izAt (g.mv n).rows.lists i=(izAt g.rows.lists i).map (imv n):=izAt_maps hi5
   refine Gt.leaf_iff.2 ⟨by rw [hL];exact q.1,q.2.1,q.2.2.1,by rw [ez,List.length_map];exact q.2.2.2.1,fun k hk=>?_⟩
   rw [ez] at hk ⊢
   rw [List.length_map] at hk
   rw [itAt_maps hk]
   exact q.2.2.2.2 k hk
theorem Gt.tree_tm {g:Gt} (h:g.ok=true) {k:Nat} (hk:k<g.tree.length):0≤(ndAt g.tree k).pz.tm∧(ndAt g.tree k).pz.tm≤1099511627776 :=
 (Pz.ok_iff.1 (tok_at (Gt.head_iff.1 (Gt.ok_iff.1 h).1).2.2.2.1 hk).1).2.2.2
theorem Gt.item_in {g:Gt} {i k:Nat} (hi:i<g.rows.lists.length) (hk:k<(izAt g.rows.lists i).length):itAt (izAt g.rows.lists i) k∈g.rows.all:=by
 obtain ⟨t,ht⟩:=pre_all hi (k+1)
 rw [ht,pre_step hk]
 simp
theorem Gt.item_tm {g:Gt} (h:g.ok=true) {i k:Nat} (hi:i<g.rows.lists.length) (hk:k<(izAt g.rows.lists i).length):0≤(itAt (izAt g.rows.lists i) k).tm∧(itAt (izAt g.rows.lists i) k).tm≤1099511627776:=by
 have:=(Rw.ok_iff.1 (Gt.head_iff.1 (Gt.ok_iff.1 h).1).2.2.2.2.2.1).2.2.1 _ (Gt.item_in hi hk)
 unfold It.ok at this
 simp only [Bool.and_eq_true,inB_true] at this
 exact this.2.2
theorem ndAt_mapTo {l:List Nd} {f:Nd→Nd} {k:Nat} (h:k<l.length):ndAt (mapTo f k l) k=ndAt l k:=by unfold ndAt;rw [mapTo_get h]
theorem mapTo_nd {l:List Nd} {f:Nd→Nd} {k:Nat} (h:k<l.length):(mapTo f k l).set k (f (ndAt l k))=mapTo f (k+1) l:=by rw [ndAt_lt h];exact mapTo_next h
theorem mv_big (g:Gt) (n:Int):(g.mv n).big=g.big:=by
 have e1:(g.mv n).rows.lists.map List.length=g.rows.lists.map List.length:=by
  show ((g.rows.lists.map (List.map (imv n))).map List.length)=_
  rw [List.map_map]
  refine List.map_congr_left fun l _=>?_
  simp
 have e2:(g.mv n).rows.big=g.rows.big:=by
  unfold Rw.big izSum
  rw [List.map_take,List.map_take,e1]
  have e3:(g.mv n).rows.lists.length=g.rows.lists.length:=List.length_map ..
  rw [e3]
 have e4:(g.mv n).tree.length=g.tree.length:=List.length_map ..
 unfold Gt.big
 rw [e2,e4]
 rfl
theorem Gt.moved_big {g:Gt} {n:Int} (hB:g.big≤1048576):(g.moved n).big≤1048576:=by
 unfold Gt.moved
 split
 ·rw [mv_big];exact hB
 ·exact Nat.zero_le 1048576
end Go.Proofs.YtmfabeghfdoibaaGreat
