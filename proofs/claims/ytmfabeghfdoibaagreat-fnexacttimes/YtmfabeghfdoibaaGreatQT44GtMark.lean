import Derived.Test.YtmfabeghfdoibaaGreatQT31GtZc
import Derived.Test.YtmfabeghfdoibaaGreatQT43GtMk
set_option maxHeartbeats 6400000
set_option maxRecDepth 100000
namespace Go.Proofs.YtmfabeghfdoibaaGreat
open Go.RowKit
theorem markGts (s:Int) (s0:0≤s) (s1:s≤274877906944) (b t:Nat) (v:Value) (g:Gt) (w:World) (hB:g.big≤1048576) (H:Hid (GtIn b t w v g)) :
 Calls Tryz.prog 11 #[v,.int .i64 s] w fun e w'=>e = .returned (.int .i64 (g.k7 s))∧GtIn b t w' v (g.mk' s)∧Span b t w w':=by
 obtain ⟨x,f,rfl,hG,hI,hA,hw⟩:=H.out
 obtain ⟨z1,z2,z3,z4,z5,z6,z7⟩:=Gt.small hB
 obtain ⟨y1,y2,y3,y4,y5,y6,y7⟩:=Gt.ks hB s0 s1
 have Fin:Hid (∀ w',GtW w' x f (g.mk' s)→t≤w'.heap.size→GtIn b t w' (g.val x) (g.mk' s)):=fun w' h hs=>⟨x,f,(Gt.mk_val s g x).symm,h,hI,hA,hs⟩
 have M1:Hid (∀ W,t≤W.heap.size→GtW W x f (⟨g.ln,g.routes,g.rules,g.tree,g.leaves,g.rows,g.steers,g.fair,g.next,g.draw⟩:Gt)→Calls Tryz.prog 50 #[(.slice x.a1 g.routes.length x.c1),.int .i64 s] W fun e w'=>e = .returned (.int .i64 (g.k1 s))∧GtW w' x f (⟨g.ln,rtMkS s g.routes,g.rules,g.tree,g.leaves,g.rows,g.steers,g.fair,g.next,g.draw⟩:Gt)∧Span b t W w'∧(∀ k,t≤k→k<W.heap.size→w'.heap[k]? = W.heap[k]?)):=fun W hs h=>by
  refine (markRtS s s0 (by omega) f.b1 f.t1 _ g.routes W z1 h.routes).mono fun e w' hh=>?_
  obtain ⟨rfl,r,sp⟩:=hh
  exact ⟨rfl,h.turn1 hI hs hA sp (by rw [rtMkS_length];exact r),sp.wide hI.l1 hI.h1,fun k k1 k2=>sp.block k k2 (.inr (Nat.le_trans hI.h1 k1))⟩
 have M2:Hid (∀ W,t≤W.heap.size→GtW W x f (⟨g.ln,rtMkS s g.routes,g.rules,g.tree,g.leaves,g.rows,g.steers,g.fair,g.next,g.draw⟩:Gt)→Calls Tryz.prog 51 #[(.slice x.a2 g.rules.length x.c2),.int .i64 (g.k1 s)] W fun e w'=>e = .returned (.int .i64 (g.k2 s))∧GtW w' x f (⟨g.ln,rtMkS s g.routes,ruMkS (g.k1 s) g.rules,g.tree,g.leaves,g.rows,g.steers,g.fair,g.next,g.draw⟩:Gt)∧Span b t W w'∧(∀ k,t≤k→k<W.heap.size→w'.heap[k]? = W.heap[k]?)):=fun W hs h=>by
  refine (markRuS (g.k1 s) y1.1 y1.2 f.b2 f.t2 _ g.rules W z2 h.rules).mono fun e w' hh=>?_
  obtain ⟨rfl,r,sp⟩:=hh
  exact ⟨rfl,h.turn2 hI hs hA sp (by rw [ruMkS_length];exact r),sp.wide hI.l2 hI.h2,fun k k1 k2=>sp.block k k2 (.inr (Nat.le_trans hI.h2 k1))⟩
 have M3:Hid (∀ W,t≤W.heap.size→GtW W x f (⟨g.ln,rtMkS s g.routes,ruMkS (g.k1 s) g.rules,g.tree,g.leaves,g.rows,g.steers,g.fair,g.next,g.draw⟩:Gt)→Calls Tryz.prog 52 #[(.slice x.a3 g.tree.length x.c3),.int .i64 (g.k2 s)] W fun e w'=>e = .returned (.int .i64 (g.k3 s))∧GtW w' x f (⟨g.ln,rtMkS s g.routes,ruMkS (g.k1 s) g.rules,ndMkS (g.k2 s) g.tree,g.leaves,g.rows,g.steers,g.fair,g.next,g.draw⟩:Gt)∧Span b t W w'∧(∀ k,t≤k→k<W.heap.size→w'.heap[k]? = W.heap[k]?)):=fun W hs h=>by
  refine (markNdS (g.k2 s) y2.1 y2.2 f.b3 f.t3 _ g.tree W z3 h.tree).mono fun e w' hh=>?_
  obtain ⟨rfl,r,sp⟩:=hh
  exact ⟨rfl,h.turn3 hI hs hA sp (by rw [ndMkS_length];exact r),sp.wide hI.l3 hI.h3,fun k k1 k2=>sp.block k k2 (.inr (Nat.le_trans hI.h3 k1))⟩
 have M4:Hid (∀ W,t≤W.heap.size→GtW W x f (⟨g.ln,rtMkS s g.routes,ruMkS (g.k1 s) g.rules,ndMkS (g.k2 s) g.tree,g.leaves,g.rows,g.steers,g.fair,g.next,g.draw⟩:Gt)→Calls Tryz.prog 16 #[(.slice x.a4 g.leaves.length x.c4),.int .i64 (g.k3 s)] W fun e w'=>e = .returned (.int .i64 (g.k4 s))∧GtW w' x f (⟨g.ln,rtMkS s g.routes,ruMkS (g.k1 s) g.rules,ndMkS (g.k2 s) g.tree,intMkS (g.k3 s) g.leaves,g.rows,g.steers,g.fair,g.next,g.draw⟩:Gt)∧Span b t W w'∧(∀ k,t≤k→k<W.heap.size→w'.heap[k]? = W.heap[k]?)):=fun W hs h=>by
  refine (markIntS (g.k3 s) y3.1 y3.2 f.b4 f.t4 _ g.leaves W z4 h.leaves).mono fun e w' hh=>?_
  obtain ⟨rfl,r,sp⟩:=hh
  exact ⟨rfl,h.turn4 hI hs hA sp (by rw [intMkS_length];exact r),sp.wide hI.l4 hI.h4,fun k k1 k2=>sp.block k k2 (.inr (Nat.le_trans hI.h4 k1))⟩
 have M5:Hid (∀ W,t≤W.heap.size→GtW W x f (⟨g.ln,rtMkS s g.routes,ruMkS (g.k1 s) g.rules,ndMkS (g.k2 s) g.tree,intMkS (g.k3 s) g.leaves,g.rows,g.steers,g.fair,g.next,g.draw⟩:Gt)→Calls Tryz.prog 53 #[(g.rows.val x.a5 x.c5),.int .i64 (g.k4 s)] W fun e w'=>e = .returned (.int .i64 (g.k5 s))∧GtW w' x f (⟨g.ln,rtMkS s g.routes,ruMkS (g.k1 s) g.rules,ndMkS (g.k2 s) g.tree,intMkS (g.k3 s) g.leaves,Rw.mk' (g.k4 s) g.rows,g.steers,g.fair,g.next,g.draw⟩:Gt)∧Span b t W w'∧(∀ k,t≤k→k<W.heap.size→w'.heap[k]? = W.heap[k]?)):=fun W hs h=>by
  refine (markRws (g.k4 s) y4.1 y4.2 f.b5 f.t5 _ g.rows W z5 h.rows).mono fun e w' hh=>?_
  obtain ⟨rfl,r,sp⟩:=hh
  exact ⟨rfl,h.turn5 hI hs hA sp (by have e:(Rw.mk' (g.k4 s) g.rows).val x.a5 x.c5=g.rows.val x.a5 x.c5:=by { unfold Rw.val;rw [rw_mk_len];rfl };rw [e];exact r),sp.wide hI.l5 hI.h5,fun k k1 k2=>sp.block k k2 (.inr (Nat.le_trans hI.h5 k1))⟩
 have M6:Hid (∀ W,t≤W.heap.size→GtW W x f (⟨g.ln,rtMkS s g.routes,ruMkS (g.k1 s) g.rules,ndMkS (g.k2 s) g.tree,intMkS (g.k3 s) g.leaves,Rw.mk' (g.k4 s) g.rows,g.steers,g.fair,g.next,g.draw⟩:Gt)→Calls Tryz.prog 54 #[(.slice x.a6 g.steers.length x.c6),.int .i64 (g.k5 s)] W fun e w'=>e = .returned (.int .i64 (g.k6 s))∧GtW w' x f (⟨g.ln,rtMkS s g.routes,ruMkS (g.k1 s) g.rules,ndMkS (g.k2 s) g.tree,intMkS (g.k3 s) g.leaves,Rw.mk' (g.k4 s) g.rows,srMkS (g.k5 s) g.steers,g.fair,g.next,g.draw⟩:Gt)∧Span b t W w'∧(∀ k,t≤k→k<W.heap.size→w'.heap[k]? = W.heap[k]?)):=fun W hs h=>by
  refine (markSrS (g.k5 s) y5.1 y5.2 f.b6 f.t6 _ g.steers W z6 h.steers).mono fun e w' hh=>?_
  obtain ⟨rfl,r,sp⟩:=hh
  exact ⟨rfl,h.turn6 hI hs hA sp (by rw [srMkS_length];exact r),sp.wide hI.l6 hI.h6,fun k k1 k2=>sp.block k k2 (.inr (Nat.le_trans hI.h6 k1))⟩
 have M7:Hid (∀ W,t≤W.heap.size→GtW W x f (⟨g.ln,rtMkS s g.routes,ruMkS (g.k1 s) g.rules,ndMkS (g.k2 s) g.tree,intMkS (g.k3 s) g.leaves,Rw.mk' (g.k4 s) g.rows,srMkS (g.k5 s) g.steers,g.fair,g.next,g.draw⟩:Gt)→Calls Tryz.prog 55 #[(g.fair.val x.a7 x.c7),.int .i64 (g.k6 s)] W fun e w'=>e = .returned (.int .i64 (g.k7 s))∧GtW w' x f (⟨g.ln,rtMkS s g.routes,ruMkS (g.k1 s) g.rules,ndMkS (g.k2 s) g.tree,intMkS (g.k3 s) g.leaves,Rw.mk' (g.k4 s) g.rows,srMkS (g.k5 s) g.steers,Fs.mk' (g.k6 s) g.fair,g.next,g.draw⟩:Gt)∧Span b t W w'∧(∀ k,t≤k→k<W.heap.size→w'.heap[k]? = W.heap[k]?)):=fun W hs h=>by
  refine (markFss (g.k6 s) y6.1 y6.2 f.b7 f.t7 _ g.fair W z7 h.fair).mono fun e w' hh=>?_
  obtain ⟨rfl,r,sp⟩:=hh
  exact ⟨rfl,h.turn7 hI hs hA sp (by have e:(Fs.mk' (g.k6 s) g.fair).val x.a7 x.c7=g.fair.val x.a7 x.c7:=by { unfold Fs.val;rw [fs_mk_len];rfl };rw [e];exact r),sp.wide hI.l7 hI.h7,fun k k1 k2=>sp.block k k2 (.inr (Nat.le_trans hI.h7 k1))⟩
 have G0:Hid (GtW w x f g):=hG
 have Hw:Hid (t≤w.heap.size):=hw
 clear H hG hB hw z1 z2 z3 z4 z5 z6 z7 y1 y2 y3 y4 y5 y6 y7 s0 s1
 obtain ⟨g1,hg1⟩:∃ g',g'=(⟨g.ln,rtMkS s g.routes,g.rules,g.tree,g.leaves,g.rows,g.steers,g.fair,g.next,g.draw⟩:Gt):=⟨_,rfl⟩
 obtain ⟨g2,hg2⟩:∃ g',g'=(⟨g.ln,rtMkS s g.routes,ruMkS (g.k1 s) g.rules,g.tree,g.leaves,g.rows,g.steers,g.fair,g.next,g.draw⟩:Gt):=⟨_,rfl⟩
 obtain ⟨g3,hg3⟩:∃ g',g'=(⟨g.ln,rtMkS s g.routes,ruMkS (g.k1 s) g.rules,ndMkS (g.k2 s) g.tree,g.leaves,g.rows,g.steers,g.fair,g.next,g.draw⟩:Gt):=⟨_,rfl⟩
 obtain ⟨g4,hg4⟩:∃ g',g'=(⟨g.ln,rtMkS s g.routes,ruMkS (g.k1 s) g.rules,ndMkS (g.k2 s) g.tree,intMkS (g.k3 s) g.leaves,g.rows,g.steers,g.fair,g.next,g.draw⟩:Gt):=⟨_,rfl⟩
 obtain ⟨g5,hg5⟩:∃ g',g'=(⟨g.ln,rtMkS s g.routes,ruMkS (g.k1 s) g.rules,ndMkS (g.k2 s) g.tree,intMkS (g.k3 s) g.leaves,Rw.mk' (g.k4 s) g.rows,g.steers,g.fair,g.next,g.draw⟩:Gt):=⟨_,rfl⟩
 obtain ⟨g6,hg6⟩:∃ g',g'=(⟨g.ln,rtMkS s g.routes,ruMkS (g.k1 s) g.rules,ndMkS (g.k2 s) g.tree,intMkS (g.k3 s) g.leaves,Rw.mk' (g.k4 s) g.rows,srMkS (g.k5 s) g.steers,g.fair,g.next,g.draw⟩:Gt):=⟨_,rfl⟩
 obtain ⟨g7,hg7⟩:∃ g',g'=(⟨g.ln,rtMkS s g.routes,ruMkS (g.k1 s) g.rules,ndMkS (g.k2 s) g.tree,intMkS (g.k3 s) g.leaves,Rw.mk' (g.k4 s) g.rows,srMkS (g.k5 s) g.steers,Fs.mk' (g.k6 s) g.fair,g.next,g.draw⟩:Gt):=⟨_,rfl⟩
 rw [← hg1] at M1 M2
 rw [← hg2] at M2 M3
 rw [← hg3] at M3 M4
 rw [← hg4] at M4 M5
 rw [← hg5] at M5 M6
 rw [← hg6] at M6 M7
 rw [← hg7] at M7
 have e7:g.mk' s=g7:=hg7.symm
 rw [e7] at Fin ⊢
 clear e7 hg1 hg2 hg3 hg4 hg5 hg6 hg7
 generalize g.k1 s=K1 at M1 M2
 generalize g.k2 s=K2 at M2 M3
 generalize g.k3 s=K3 at M3 M4
 generalize g.k4 s=K4 at M4 M5
 generalize g.k5 s=K5 at M5 M6
 generalize g.k6 s=K6 at M6 M7
 generalize g.k7 s=K7 at M7 ⊢
 obtain ⟨x1,d1,x2,d2,x3,d3,x4,d4,x5,d5,x6,d6,x7,d7⟩:=x
 obtain ⟨⟨kd,ex,le⟩,rts,rus,tr,lv,⟨mo,li⟩,st,⟨nw,fl⟩,nx,dr⟩:=g
 simp only [Gt.val,Gt.cells,Rw.val,Fs.val] at M1 M2 M3 M4 M5 M6 M7 Fin ⊢
 generalize rts.length=n1 at M1 Fin ⊢
 generalize rus.length=n2 at M2 Fin ⊢
 generalize tr.length=n3 at M3 Fin ⊢
 generalize lv.length=n4 at M4 Fin ⊢
 generalize li.length=n5 at M5 Fin ⊢
 generalize st.length=n6 at M6 Fin ⊢
 generalize fl.length=n7 at M7 Fin ⊢
 obtain ⟨A,hAq⟩:∃ A,A=w.heap.size:=⟨_,rfl⟩
 obtain ⟨W0,hW⟩:∃ W,W=w.alloc (.cells (gc kd ex le (.slice x1 n1 d1) (.slice x2 n2 d2) (.slice x3 n3 d3) (.slice x4 n4 d4) mo (.slice x5 n5 d5) (.slice x6 n6 d6) nw (.slice x7 n7 d7) nx dr) 50):=⟨_,rfl⟩
 have Z0:Hid (Boxed W0 A (gc kd ex le (.slice x1 n1 d1) (.slice x2 n2 d2) (.slice x3 n3 d3) (.slice x4 n4 d4) mo (.slice x5 n5 d5) (.slice x6 n6 d6) nw (.slice x7 n7 d7) nx dr) 50∧GtW W0 ⟨x1,d1,x2,d2,x3,d3,x4,d4,x5,d5,x6,d6,x7,d7⟩ f ⟨⟨kd,ex,le⟩,rts,rus,tr,lv,⟨mo,li⟩,st,⟨nw,fl⟩,nx,dr⟩∧Span b t w W0∧t≤W0.heap.size∧t≤A):=by
  have bw:Below w.heap.size w W0:=by rw [hW];exact (Below.refl _ _).alloc nlr _
  exact ⟨by rw [hW,hAq];exact Boxed.new _ _ _,G0.out.below bw,Span.of_below bw,Nat.le_trans Hw.out bw.size,by rw [hAq];exact Hw.out⟩
 have HW:Hid (W0=_):=hW
 have HA:Hid (A=_):=hAq
 clear hW hAq G0 Hw
 go_enter Tryz.func11,Tryz.ntmps11
 go_upto_region 1 with fail
 rw [← HW.out,← HA.out]
 clear HW HA
 have c3:W0.cell? ⟨A,3,none⟩=some (.slice x1 n1 d1):=Z0.out.1.cell 3 rfl
 go_wp2_with fail
 refine (M1.out _ Z0.out.2.2.2.1 Z0.out.2.1).mono ?_
 rintro e W1 ⟨rfl,r,sp,kp⟩
 have Z1:Hid (Boxed W1 A (gc kd ex le (.slice x1 n1 d1) (.slice x2 n2 d2) (.slice x3 n3 d3) (.slice x4 n4 d4) mo (.slice x5 n5 d5) (.slice x6 n6 d6) nw (.slice x7 n7 d7) nx dr) 50∧GtW W1 ⟨x1,d1,x2,d2,x3,d3,x4,d4,x5,d5,x6,d6,x7,d7⟩ f g1∧Span b t w W1∧t≤W1.heap.size∧t≤A):=⟨(kp A Z0.out.2.2.2.2 Z0.out.1.under).trans Z0.out.1,r,Z0.out.2.2.1.trans sp,Nat.le_trans Z0.out.2.2.2.1 sp.size,Z0.out.2.2.2.2⟩
 clear r sp kp c3 Z0 M1
 have c4:W1.cell? ⟨A,4,none⟩=some (.slice x2 n2 d2):=Z1.out.1.cell 4 rfl
 go_wp2_with fail
 refine (M2.out _ Z1.out.2.2.2.1 Z1.out.2.1).mono ?_
 rintro e W2 ⟨rfl,r,sp,kp⟩
 have Z2:Hid (Boxed W2 A (gc kd ex le (.slice x1 n1 d1) (.slice x2 n2 d2) (.slice x3 n3 d3) (.slice x4 n4 d4) mo (.slice x5 n5 d5) (.slice x6 n6 d6) nw (.slice x7 n7 d7) nx dr) 50∧GtW W2 ⟨x1,d1,x2,d2,x3,d3,x4,d4,x5,d5,x6,d6,x7,d7⟩ f g2∧Span b t w W2∧t≤W2.heap.size∧t≤A):=⟨(kp A Z1.out.2.2.2.2 Z1.out.1.under).trans Z1.out.1,r,Z1.out.2.2.1.trans sp,Nat.le_trans Z1.out.2.2.2.1 sp.size,Z1.out.2.2.2.2⟩
 clear r sp kp c4 Z1 M2
 have c5:W2.cell? ⟨A,5,none⟩=some (.slice x3 n3 d3):=Z2.out.1.cell 5 rfl
 go_wp2_with fail
 refine (M3.out _ Z2.out.2.2.2.1 Z2.out.2.1).mono ?_
 rintro e W3 ⟨rfl,r,sp,kp⟩
 have Z3:Hid (Boxed W3 A (gc kd ex le (.slice x1 n1 d1) (.slice x2 n2 d2) (.slice x3 n3 d3) (.slice x4 n4 d4) mo (.slice x5 n5 d5) (.slice x6 n6 d6) nw (.slice x7 n7 d7) nx dr) 50∧GtW W3 ⟨x1,d1,x2,d2,x3,d3,x4,d4,x5,d5,x6,d6,x7,d7⟩ f g3∧Span b t w W3∧t≤W3.heap.size∧t≤A):=⟨(kp A Z2.out.2.2.2.2 Z2.out.1.under).trans Z2.out.1,r,Z2.out.2.2.1.trans sp,Nat.le_trans Z2.out.2.2.2.1 sp.size,Z2.out.2.2.2.2⟩
 clear r sp kp c5 Z2 M3
 have c6:W3.cell? ⟨A,6,none⟩=some (.slice x4 n4 d4):=Z3.out.1.cell 6 rfl
 go_wp2_with fail
 refine (M4.out _ Z3.out.2.2.2.1 Z3.out.2.1).mono ?_
 rintro e W4 ⟨rfl,r,sp,kp⟩
 have Z4:Hid (Boxed W4 A (gc kd ex le (.slice x1 n1 d1) (.slice x2 n2 d2) (.slice x3 n3 d3) (.slice x4 n4 d4) mo (.slice x5 n5 d5) (.slice x6 n6 d6) nw (.slice x7 n7 d7) nx dr) 50∧GtW W4 ⟨x1,d1,x2,d2,x3,d3,x4,d4,x5,d5,x6,d6,x7,d7⟩ f g4∧Span b t w W4∧t≤W4.heap.size∧t≤A):=⟨(kp A Z3.out.2.2.2.2 Z3.out.1.under).trans Z3.out.1,r,Z3.out.2.2.1.trans sp,Nat.le_trans Z3.out.2.2.2.1 sp.size,Z3.out.2.2.2.2⟩
 clear r sp kp c6 Z3 M4
 have c7:W4.cell? ⟨A,7,none⟩=some (.int .i64 mo):=Z4.out.1.cell 7 rfl
 have c8:W4.cell? ⟨A,8,none⟩=some (.slice x5 n5 d5):=Z4.out.1.cell 8 rfl
 go_wp2_with fail
 refine (M5.out _ Z4.out.2.2.2.1 Z4.out.2.1).mono ?_
 rintro e W5 ⟨rfl,r,sp,kp⟩
 have Z5:Hid (Boxed W5 A (gc kd ex le (.slice x1 n1 d1) (.slice x2 n2 d2) (.slice x3 n3 d3) (.slice x4 n4 d4) mo (.slice x5 n5 d5) (.slice x6 n6 d6) nw (.slice x7 n7 d7) nx dr) 50∧GtW W5 ⟨x1,d1,x2,d2,x3,d3,x4,d4,x5,d5,x6,d6,x7,d7⟩ f g5∧Span b t w W5∧t≤W5.heap.size∧t≤A):=⟨(kp A Z4.out.2.2.2.2 Z4.out.1.under).trans Z4.out.1,r,Z4.out.2.2.1.trans sp,Nat.le_trans Z4.out.2.2.2.1 sp.size,Z4.out.2.2.2.2⟩
 clear r sp kp c7 c8 Z4 M5
 have c9:W5.cell? ⟨A,9,none⟩=some (.slice x6 n6 d6):=Z5.out.1.cell 9 rfl
 go_wp2_with fail
 refine (M6.out _ Z5.out.2.2.2.1 Z5.out.2.1).mono ?_
 rintro e W6 ⟨rfl,r,sp,kp⟩
 have Z6:Hid (Boxed W6 A (gc kd ex le (.slice x1 n1 d1) (.slice x2 n2 d2) (.slice x3 n3 d3) (.slice x4 n4 d4) mo (.slice x5 n5 d5) (.slice x6 n6 d6) nw (.slice x7 n7 d7) nx dr) 50∧GtW W6 ⟨x1,d1,x2,d2,x3,d3,x4,d4,x5,d5,x6,d6,x7,d7⟩ f g6∧Span b t w W6∧t≤W6.heap.size∧t≤A):=⟨(kp A Z5.out.2.2.2.2 Z5.out.1.under).trans Z5.out.1,r,Z5.out.2.2.1.trans sp,Nat.le_trans Z5.out.2.2.2.1 sp.size,Z5.out.2.2.2.2⟩
 clear r sp kp c9 Z5 M6
 have c10:W6.cell? ⟨A,10,none⟩=some (.int .i64 nw):=Z6.out.1.cell 10 rfl
 have c11:W6.cell? ⟨A,11,none⟩=some (.slice x7 n7 d7):=Z6.out.1.cell 11 rfl
 go_wp2_with fail
 refine (M7.out _ Z6.out.2.2.2.1 Z6.out.2.1).mono ?_
 rintro e W7 ⟨rfl,r,sp,kp⟩
 have Z7:Hid (Boxed W7 A (gc kd ex le (.slice x1 n1 d1) (.slice x2 n2 d2) (.slice x3 n3 d3) (.slice x4 n4 d4) mo (.slice x5 n5 d5) (.slice x6 n6 d6) nw (.slice x7 n7 d7) nx dr) 50∧GtW W7 ⟨x1,d1,x2,d2,x3,d3,x4,d4,x5,d5,x6,d6,x7,d7⟩ f g7∧Span b t w W7∧t≤W7.heap.size∧t≤A):=⟨(kp A Z6.out.2.2.2.2 Z6.out.1.under).trans Z6.out.1,r,Z6.out.2.2.1.trans sp,Nat.le_trans Z6.out.2.2.2.1 sp.size,Z6.out.2.2.2.2⟩
 clear r sp kp c10 c11 Z6 M7
 go_wp2
 go_ret
 exact ⟨rfl,Fin.out _ Z7.out.2.1 Z7.out.2.2.2.1,Z7.out.2.2.1⟩
end Go.Proofs.YtmfabeghfdoibaaGreat
