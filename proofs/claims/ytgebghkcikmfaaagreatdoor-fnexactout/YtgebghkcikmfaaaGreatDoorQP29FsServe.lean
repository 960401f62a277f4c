import Derived.Test.YtgebghkcikmfaaaGreatDoorQP20FsCopyS
set_option maxHeartbeats 3200000
set_option maxRecDepth 100000
namespace Go.Proofs.YtgebghkcikmfaaaGreatDoor
open Go.RowKit
theorem specMx (a b:Int) (w:World) :
 Calls Tryz.prog 82 #[.int .i64 a,.int .i64 b] w fun e w'=>e = .returned (.int .i64 (max a b))∧w'=w:=by
 by_cases h:b<a
 ·go_enter Tryz.func82,Tryz.ntmps82
  go_wp2
  go_ret
  exact ⟨ret_num (by omega),rfl⟩
 ·go_enter Tryz.func82,Tryz.ntmps82
  go_wp2
  go_ret
  exact ⟨ret_num (by omega),rfl⟩
theorem specBeg (d:Fs) (v:Value) (i:Nat) (w:World) (hi:i<d.flows.length) (hl:d.flows.length≤1048576) (h:Hid (FsAt w v d)) :
 Calls Tryz.prog 78 #[v,.int .i64 i] w fun e w'=>e = .returned (.int .i64 (d.beg i))∧Bel w w':=by
 obtain ⟨a,c,rfl,k1⟩:=h.out
 clear h
 have Hv:Hid (d.beg i=max d.now (fwAt d.flows i).finish):=rfl
 generalize d.beg i=R at Hv ⊢
 obtain ⟨f,ls⟩:=d
 simp only [Fs.val] at Hv k1 hi hl ⊢
 obtain ⟨b,off,ak,ck,ha,hb,⟨c0,c1,c2⟩,-,-⟩:=k1 i hi
 subst ha
 generalize (fwAt ls i).finish=u at c1 Hv
 generalize (fwAt ls i).weight=t at c0
 generalize (fwAt ls i).sizes.length=m at c2
 generalize ls.length=n at hi hl ⊢
 clear k1 c0 c2
 have M:∀ w,Calls Tryz.prog 82 #[.int .i64 f,.int .i64 u] w fun e w'=>e = .returned (.int .i64 R)∧Bel w w':=fun w=>(specMx f u w).mono (by rintro e w' ⟨rfl,rfl⟩;exact ⟨by rw [Hv.out],Below.refl _ _⟩)
 have M':Hid _:=M
 clear M Hv
 have X:Hid (Boxed (w.alloc (.cells #[.int .i64 f,.slice (some ⟨b,off,none⟩) n c] 48)) w.heap.size #[.int .i64 f,.slice (some ⟨b,off,none⟩) n c] 48∧(w.alloc (.cells #[.int .i64 f,.slice (some ⟨b,off,none⟩) n c] 48)).cell? ⟨b,off+i*3+1,none⟩=some (.int .i64 u)∧Bel w (w.alloc (.cells #[.int .i64 f,.slice (some ⟨b,off,none⟩) n c] 48))∧b<(w.alloc (.cells #[.int .i64 f,.slice (some ⟨b,off,none⟩) n c] 48)).heap.size):=by
  have q:Bel w (w.alloc (.cells #[.int .i64 f,.slice (some ⟨b,off,none⟩) n c] 48)):=(Below.refl _ _).alloc nlr _
  exact ⟨Boxed.new _ _ _,by rw [q.cell (p:=⟨b,off+i*3+1,none⟩) hb];exact c1,q,Nat.lt_of_lt_of_le hb q.size⟩
 clear c1 hb
 go_enter Tryz.func78,Tryz.ntmps78
 go_upto_region 1 with fail
 generalize w.alloc (.cells #[.int .i64 f,.slice (some ⟨b,off,none⟩) n c] 48)=W at X ⊢
 have d0:∀ p:BelW W.heap.size W,p.w'.cell? ⟨w.heap.size,0,none⟩=some (.int .i64 f):=fun p=>(X.out.1.below X.out.1.under p.h).cell 0 rfl
 have d1:∀ p:BelW W.heap.size W,p.w'.cell? ⟨w.heap.size,1,none⟩=some (.slice (some ⟨b,off,none⟩) n c):=fun p=>(X.out.1.below X.out.1.under p.h).cell 1 rfl
 have d2:∀ p:BelW W.heap.size W,p.w'.cell? ⟨b,off+i*3+1,none⟩=some (.int .i64 u):=fun p=>by rw [p.h.cell (p:=⟨b,off+i*3+1,none⟩) X.out.2.2.2];exact X.out.2.1
 haveI:Nonempty (BelW W.heap.size W):=⟨⟨W,Below.refl _ _⟩⟩
 have hi':(i:Int)<(n:Int):=by omega
 refine rgb W.heap.size (by kernel_rfl) (by kernel_rfl) ?_
 repeat (go_big_quiet_step ((go_at_call 82;with_reducible refine qb (M'.out _))))
 refine wpQuiet_nil ?_
 intro w7 hx
 have H8:Hid (Bel w w7):=X.out.2.2.1.trans ((BelW.out hx).mono X.out.2.2.1.size)
 clear hx d0 d1 d2
 go_wp2
 go_ret
 exact ⟨rfl,H8.out⟩
section
variable {base B n:Nat} {w w' w'':World}
theorem row_off {b:Nat} {e:TypeId} {c m:Nat} {v:Value} {xs:List Value} {cs:Array Value} {t:TypeId} (h:w.ownsRow b e c v m xs) (bx:Boxed w B cs t) (ne:t≠e):v.ownBlock≠some B:=by
 intro hk
 rcases h.2 with ⟨e1,_⟩|⟨g,cap,cur,e1,_,hg,_⟩
 ·rw [e1] at hk;cases hk
 ·rw [e1] at hk
  cases hk
  have h1:=bx
  unfold Boxed at h1
  simp only at h1
  rw [h1] at hg
  simp only [Option.some.injEq,Obj.cells.injEq] at hg
  exact ne hg.2.1
end
theorem IntsAt.tail {w:World} {b:Nat} {o:Nat} {l:List Int} (h:IntsAt w (some ⟨b,o,none⟩) l):IntsAt w (some ⟨b,o+1,none⟩) (l.drop 1):=by
 intro k hk
 rw [List.length_drop] at hk
 obtain ⟨b',o',e,hb,hc⟩:=h (k+1) (by omega)
 cases e
 refine ⟨b,o+1,rfl,hb,?_⟩
 rw [List.getElem?_drop,Nat.add_comm 1 k,show o+1+k=o+(k+1) by omega]
 exact hc
theorem serve_wraps {x b:Int} {s:Int} (hx:1≤x∧x≤10) (hs:1≤s∧s≤2000) (hb:0≤b∧b≤1125899906842624):(¬ x=0)∧Int.tdiv 2520 x=2520/x∧IntKind.i64.wrap (2520/x)=2520/x∧IntKind.i64.wrap (s*(2520/x))=s*(2520/x)∧IntKind.i64.wrap (b+s*(2520/x))=b+s*(2520/x):=by
 have h3:252≤2520/x∧2520/x≤2520:=by
  have:x=1∨x=2∨x=3∨x=4∨x=5∨x=6∨x=7∨x=8∨x=9∨x=10:=by omega
  rcases this with rfl|rfl|rfl|rfl|rfl|rfl|rfl|rfl|rfl|rfl<;>decide
 have h4:1*252≤s*(2520/x):=Int.mul_le_mul hs.1 h3.1 (by omega) (by omega)
 have h5:s*(2520/x)≤2000*2520:=Int.mul_le_mul hs.2 h3.2 (by omega) (by omega)
 refine ⟨by omega,Int.tdiv_eq_ediv_of_nonneg (by omega),by rw [IntKind.wrap_i64];omega,by rw [IntKind.wrap_i64];omega,by rw [IntKind.wrap_i64];omega⟩
end Go.Proofs.YtgebghkcikmfaaaGreatDoor
