import Derived.Test.YtmfabeghfdoibaaGreatQT33RwOkS
import Derived.Test.YtmfabeghfdoibaaGreatQT16IzGrow
import Derived.Test.YtmfabeghfdoibaaGreatQT21StepRow
import Derived.Laws.ResultCell
import Derived.Laws.CopyOwn
set_option maxHeartbeats 6400000
set_option maxRecDepth 100000
namespace Go.Proofs.YtmfabeghfdoibaaGreat
open Go.RowKit
structure CpR (w:World) (f:Int) (a:Option Addr) (n c:Nat) (ls:List (List It)) (k:Nat) (v:Value) (vs:List Value) (wr:World):Prop where
 g:IzG (w.heap.size+3) v vs (ls.take k) wr
 out:Boxed wr (w.heap.size+1+1) #[.int .i64 f,v] 44
 res:Boxed wr (w.heap.size+1) #[.int .i64 0,.slice none 0 0] 44
 box:Boxed wr w.heap.size #[.int .i64 f,.slice a n c] 44
 bel:Below w.heap.size w wr
theorem CpR.add {w:World} {f:Int} {a:Option Addr} {n c:Nat} {ls:List (List It)} {k:Nat} {v v' u:Value} {vs:List Value} {wr wd wx:World} (h:CpR w f a n c ls k v vs wr) (hk:k<ls.length) (g1:Below wr.heap.size wr wd) (hu:ItRow wr.heap.size wd u (izAt ls k))
 (ho:wx.ownsRow (w.heap.size+3) 78 1 v' (k+1) (vs++[u])) (g2:∀ y,v.ownBlock≠some y→y<wd.heap.size→wx.heap[y]? = wd.heap[y]?) (g3:Below (w.heap.size+3) wd wx) :
 CpR w f a n c ls (k+1) v' (vs++[u]) (wx.setCell ⟨w.heap.size+1+1,1,none⟩ v'):=by
 have hs:=h.out.under
 have hlk:(ls.take k).length=k:=by simp;omega
 have e:ls.take (k+1)=ls.take k++[izAt ls k]:=by rw [List.take_succ_eq_append_getElem hk,izAt_lt hk]
 have hg:IzG (w.heap.size+3) v' (vs++[u]) (ls.take (k+1)) wx:=by
  rw [e]
  exact h.g.add (by omega) g1 hu (by rw [hlk];exact ho) g2
 have b1:∀ y,y<w.heap.size+3→wx.heap[y]? = wr.heap[y]? := fun y hy=>(g3.block y hy).trans (g1.block y (by omega))
 have oth:∀ y,y≠w.heap.size+1+1→(wx.setCell ⟨w.heap.size+1+1,1,none⟩ v').heap[y]? = wx.heap[y]? := fun y hy=>Below.heap_setCell _ _ _ _ hy
 have o1:Boxed wx (w.heap.size+1+1) #[.int .i64 f,v] 44:=(b1 _ (by omega)).trans h.out
 refine ⟨hg.other fun y hy _=>oth y (by omega),o1.put 1 v',?_,?_,?_⟩
 ·exact (oth _ (by omega)).trans ((b1 _ (by omega)).trans h.res)
 ·exact (oth _ (by omega)).trans ((b1 _ (by omega)).trans h.box)
 ·exact (h.bel.trans ((g1.mono h.bel.size).trans (g3.mono (by omega)))).setCell (by show w.heap.size≤w.heap.size+1+1;omega) _
theorem specCopy (r:Rw) (a:Option Addr) (c:Nat) (w:World) (hB:r.big≤1048576) (h:Hid (IzAt w a r.lists)) :
 Calls Tryz.prog 89 #[r.val a c] w fun e w'=>(∃ v vs,e = .returned (.agg #[.int .i64 r.most,v])∧IzG (w.heap.size+3) v vs r.lists w')∧Below w.heap.size w w':=by
 obtain ⟨hT,-,hin⟩:=Rw.small hB
 obtain ⟨f,ls⟩:=r
 simp only [Rw.val] at h hT hin ⊢
 clear hB
 have Hin:Hid (∀ k,k<ls.length→(izAt ls k).length≤1048576):=hin
 obtain ⟨n,hn⟩:∃ n,ls.length=n:=⟨_,rfl⟩
 rw [hn] at hT ⊢
 have Hn:Hid (ls.length=n):=hn
 clear hn hin
 obtain ⟨W,hW⟩:∃ W,W=((w.alloc (.cells #[.int .i64 f,.slice a n c] 44)).alloc (.cells #[.int .i64 0,.slice none 0 0] 44)).alloc (.cells #[.int .i64 f,.slice none 0 0] 44):=⟨_,rfl⟩
 have X:Hid (CpR w f a n c ls 0 (.slice none 0 0) [] W):=by
  rw [hW]
  refine ⟨by rw [List.take_zero];exact IzG.nil _ _,?_,?_,((Boxed.new w _ _).more _).more _,(((Below.refl _ _).alloc nlr _).alloc (by simp) _).alloc (by simp;omega) _⟩
  ·have:=Boxed.new ((w.alloc (.cells #[.int .i64 f,.slice a n c] 44)).alloc (.cells #[.int .i64 0,.slice none 0 0] 44)) #[.int .i64 f,.slice none 0 0] 44
   simpa using this
  ·have:=(Boxed.new (w.alloc (.cells #[.int .i64 f,.slice a n c] 44)) #[.int .i64 0,.slice none 0 0] 44).more (.cells #[.int .i64 f,.slice none 0 0] 44)
   simpa using this
 have HW:Hid (W=_):=hW
 clear hW
 go_enter Tryz.func89,Tryz.ntmps89
 go_wp2
 rw [← HW.out]
 go_loopw [4] (fun i wr=>∃ k:Nat,k≤n∧i = .int .i64 k∧Hid (∃ v vs,CpR w f a n c ls k v vs wr)) (fun i _=>n-(intOf i).toNat)
 case atStart=>exact ⟨0,Nat.zero_le _,rfl,_,_,X.out⟩
 case round =>
  obtain ⟨k,hk,rfl,HE⟩:=hrel
  obtain ⟨v,vs,H1⟩:∃ v vs,Hid (CpR w f a n c ls k v vs wr):=HE.out
  clear X HE
  have c1:wr.cell? ⟨w.heap.size,1,none⟩=some (.slice a n c):=H1.out.box.cell 1 rfl
  by_cases hlt:k<n
  ·have hkl:k<ls.length:=by rw [Hn.out];exact hlt
   obtain ⟨b,off,ak,ck,ha,hb,hc,hr,hcap,hnil⟩:=(h.out.below H1.out.bel) k hkl
   subst ha
   have hm:=Hin.out k hkl
   have d1:wr.cell? ⟨w.heap.size+1+1,1,none⟩=some v:=H1.out.out.cell 1 rfl
   have z1:=H1.out.out.ice 1
   have Hr:Hid (ItsAt wr ak (izAt ls k)):=hr
   have Add:Hid (∀ u v' wd wx,Below wr.heap.size wr wd→ItRow wr.heap.size wd u (izAt ls k)→wx.ownsRow (w.heap.size+3) 78 1 v' (k+1) (vs++[u])→(∀ y,v.ownBlock≠some y→y<wd.heap.size→wx.heap[y]? = wd.heap[y]?)→Below (w.heap.size+3) wd wx→CpR w f (some ⟨b,off,none⟩) n c ls (k+1) v' (vs++[u]) (wx.setCell ⟨w.heap.size+1+1,1,none⟩ v')):=fun u v' wd wx q1 q2 q3 q4 q5=>H1.out.add hkl q1 q2 q3 q4 q5
   have Out:Hid (wr.ownsRow (w.heap.size+3) 78 1 v k vs∧w.heap.size+3≤wr.heap.size):=⟨by have:=H1.out.g.outer;rw [List.length_take,Nat.min_eq_left (by omega)] at this;exact this,H1.out.out.under⟩
   generalize izAt ls k=l at hc Hr hm Add hr hcap
   obtain ⟨m,hml⟩:∃ m,l.length=m:=⟨_,rfl⟩
   rw [hml] at hc hm hcap
   have Hml:Hid (l.length=m):=hml
   have l2:w.heap.size+1+1<wr.heap.size:=H1.out.out.under
   have l0:w.heap.size<wr.heap.size:=by omega
   clear hr hml
   go_wp2_with fail
   go_region_law (first|(refine it_step_app rfl (.tmp 17) (.tmp 22) rfl wr.heap.size (.slice (some ⟨wr.heap.size,0,none⟩) 0 0) [] ak m ck l Hml.out rfl rfl (it_built _ _ nlr) (Hr.out.alloc _) hnil (by rw [Hml.out];simp;omega) (by simp) ?_;intro u w2 q1 q2 q3 q4;have q5:ItRow wr.heap.size w2 u l:=(by simpa using q1);obtain ⟨ux,uc,eu⟩:=q5.shape;rw [Hml.out] at eu;subst eu;have U:Hid (ItRow wr.heap.size w2 (.slice ux m uc) l∧Below wr.heap.size wr w2):=⟨q5,((Below.refl _ wr).drew.alloc nlr _).trans q2⟩;have hs2:w.heap.size+3≤w2.heap.size:=Nat.le_trans Out.out.2 U.out.2.size;have l3:w.heap.size+1+1<w2.heap.size:=(by omega);have O2:Hid (w2.ownsRow (w.heap.size+3) 78 1 v k vs):=rows_carry Out.out.1 (fun y _ hy=>U.out.2.block y hy);have d2:w2.cell? ⟨w.heap.size+1+1,1,none⟩=some v:=((H1.out.out.below (by omega) U.out.2).cell 1 rfl);have z2:=((H1.out.out.below l2 U.out.2).ice 1);clear q1 q2 q3 q4 q5)|(refine iz_step_one rfl (.tmp 16) (.tmp 24) rfl (w.heap.size+3) v k vs (.slice ux m uc) rfl rfl rfl O2.out rfl rfl (by omega) hs2 ?_;intro v' w3 q1 q2 q3;obtain ⟨vx,vc,ev⟩:=rows_shape q1;subst ev;have R3:Hid (CpR w f (some ⟨b,off,none⟩) n c ls (k+1) (.slice vx (k+1) vc) (vs++[.slice ux m uc]) (w3.setCell ⟨w.heap.size+1+1,1,none⟩ (.slice vx (k+1) vc))):=Add.out (.slice ux m uc) _ w2 w3 U.out.2 U.out.1 q1 q3 q2;have d3:∃ y,w3.cell? ⟨w.heap.size+1+1,1,none⟩=some y:=⟨v,by rw [q2.cell (p:=⟨w.heap.size+1+1,1,none⟩) (by simp)];exact d2⟩;obtain ⟨y3,d3⟩:=d3;have z3:w3.frozen? ⟨w.heap.size+1+1,1,none⟩=false:=(by rw [ice_kept (q2.block (w.heap.size+1+1) (by omega))];exact z2);clear q1 q2 q3))
   all_goals (
    go_wp2
    go_roundw
    case rel=>exact ⟨k+1,by omega,by go_num,_,_,R3.out⟩
    case measure=>simp [intOf];omega)
  ·obtain rfl:k=n:=by omega
   have e:ls.take k=ls:=List.take_of_length_le (by rw [Hn.out];exact Nat.le_refl _)
   have HG:Hid (IzG (w.heap.size+3) v vs ls wr):=by have:=H1.out.g;rw [e] at this;exact this
   obtain ⟨vx,vc,ev⟩:=rows_shape H1.out.g.outer
   clear e
   subst ev
   go_wp2_with (first|(refine wpList_load_row rfl 44 (.tmp 3) rfl (w.heap.size+1+1) rfl _ _ _ _ H1.out.out Tryz.underlying44 rfl (by kernel_rfl) ?_)|(refine wpList_store_row rfl 44 (.tmp 2) (.tmp 27) rfl (w.heap.size+1) _ rfl rfl _ _ H1.out.res (by kernel_rfl) rfl (by simp [Value.oneCell']) ?_))
   refine bodyPost_ret (results_cell_row Tryz.results89 _ _ (w.heap.size+1) _ _ _ _ rfl (setRow_heap _ (w.heap.size+1) _ _ _ _ H1.out.res) Tryz.underlying44 rfl (by kernel_rfl)) rfl ⟨⟨_,vs,rfl,HG.out.other fun y hy _=>setRow_other _ _ _ _ (by omega)⟩,below_setRow H1.out.bel (by omega) _⟩
end Go.Proofs.YtmfabeghfdoibaaGreat
