import Derived.Test.YtmfabeghfdoibaaGreatQT47GtMvS
import Derived.Test.YtmfabeghfdoibaaGreatQT48GtTo
import Derived.Test.YtmfabeghfdoibaaGreatQT49GtEq
import Derived.Test.YtmfabeghfdoibaaGreatQT44GtMark
import Derived.Test.YtmfabeghfdoibaaGreatQT40GtMvI
set_option maxHeartbeats 12800000
set_option maxRecDepth 100000
namespace Go.Proofs.YtmfabeghfdoibaaGreat
open Go.RowKit
theorem heldGts (s:Int) (s0:0≤s) (s1:s≤274877906944) (v:Value) (g:Gt) (w:World) (hB:g.big≤1048576) (H:Hid (GtAt w v (g.mk' s))) :
 Calls Tryz.prog 12 #[v,.int .i64 s] w fun e w'=>e = .returned (.int .i64 (g.k7 s))∧Below w.heap.size w w':=by
 obtain ⟨x,rfl,hG⟩:=H.out
 obtain ⟨z1,z2,z3,z4,z5,z6,z7⟩:=Gt.small hB
 obtain ⟨y1,y2,y3,y4,y5,y6,y7⟩:=Gt.ks hB s0 s1
 have M1:Hid (∀ W,GtV W x (g.mk' s)→Calls Tryz.prog 56 #[(.slice x.a1 g.routes.length x.c1),.int .i64 s] W fun e w'=>e = .returned (.int .i64 (g.k1 s))∧Below W.heap.size W w'):=fun W h=>by
  have e:(Value.slice x.a1 g.routes.length x.c1) = .slice x.a1 (rtMkS s g.routes).length x.c1:=by rw [rtMkS_length]
  rw [e]
  exact heldRtS s s0 (by omega) _ g.routes W z1 h.routes
 have M2:Hid (∀ W,GtV W x (g.mk' s)→Calls Tryz.prog 57 #[(.slice x.a2 g.rules.length x.c2),.int .i64 (g.k1 s)] W fun e w'=>e = .returned (.int .i64 (g.k2 s))∧Below W.heap.size W w'):=fun W h=>by
  have e:(Value.slice x.a2 g.rules.length x.c2) = .slice x.a2 (ruMkS (g.k1 s) g.rules).length x.c2:=by rw [ruMkS_length]
  rw [e]
  exact heldRuS (g.k1 s) y1.1 y1.2 _ g.rules W z2 h.rules
 have M3:Hid (∀ W,GtV W x (g.mk' s)→Calls Tryz.prog 58 #[(.slice x.a3 g.tree.length x.c3),.int .i64 (g.k2 s)] W fun e w'=>e = .returned (.int .i64 (g.k3 s))∧Below W.heap.size W w'):=fun W h=>by
  have e:(Value.slice x.a3 g.tree.length x.c3) = .slice x.a3 (ndMkS (g.k2 s) g.tree).length x.c3:=by rw [ndMkS_length]
  rw [e]
  exact heldNdS (g.k2 s) y2.1 y2.2 _ g.tree W z3 h.tree
 have M4:Hid (∀ W,GtV W x (g.mk' s)→Calls Tryz.prog 17 #[(.slice x.a4 g.leaves.length x.c4),.int .i64 (g.k3 s)] W fun e w'=>e = .returned (.int .i64 (g.k4 s))∧Below W.heap.size W w'):=fun W h=>by
  have e:(Value.slice x.a4 g.leaves.length x.c4) = .slice x.a4 (intMkS (g.k3 s) g.leaves).length x.c4:=by rw [intMkS_length]
  rw [e]
  exact heldIntS (g.k3 s) y3.1 y3.2 _ g.leaves W z4 h.leaves
 have M5:Hid (∀ W,GtV W x (g.mk' s)→Calls Tryz.prog 59 #[(g.rows.val x.a5 x.c5),.int .i64 (g.k4 s)] W fun e w'=>e = .returned (.int .i64 (g.k5 s))∧Below W.heap.size W w'):=fun W h=>by
  have e:g.rows.val x.a5 x.c5=(Rw.mk' (g.k4 s) g.rows).val x.a5 x.c5:=by { unfold Rw.val;rw [rw_mk_len];rfl }
  rw [e]
  exact heldRws (g.k4 s) y4.1 y4.2 _ g.rows W z5 h.rows
 have M6:Hid (∀ W,GtV W x (g.mk' s)→Calls Tryz.prog 60 #[(.slice x.a6 g.steers.length x.c6),.int .i64 (g.k5 s)] W fun e w'=>e = .returned (.int .i64 (g.k6 s))∧Below W.heap.size W w'):=fun W h=>by
  have e:(Value.slice x.a6 g.steers.length x.c6) = .slice x.a6 (srMkS (g.k5 s) g.steers).length x.c6:=by rw [srMkS_length]
  rw [e]
  exact heldSrS (g.k5 s) y5.1 y5.2 _ g.steers W z6 h.steers
 have M7:Hid (∀ W,GtV W x (g.mk' s)→Calls Tryz.prog 61 #[(g.fair.val x.a7 x.c7),.int .i64 (g.k6 s)] W fun e w'=>e = .returned (.int .i64 (g.k7 s))∧Below W.heap.size W w'):=fun W h=>by
  have e:g.fair.val x.a7 x.c7=(Fs.mk' (g.k6 s) g.fair).val x.a7 x.c7:=by { unfold Fs.val;rw [fs_mk_len];rfl }
  rw [e]
  exact heldFss (g.k6 s) y6.1 y6.2 _ g.fair W z7 h.fair
 have G0:Hid (GtV w x (g.mk' s)):=hG
 rw [Gt.mk_val]
 have q1:¬ g.k1 s<0:=by omega
 have q2:¬ g.k2 s<0:=by omega
 have q3:¬ g.k3 s<0:=by omega
 have q4:¬ g.k4 s<0:=by omega
 have q5:¬ g.k5 s<0:=by omega
 have q6:¬ g.k6 s<0:=by omega
 have q7:¬ g.k7 s<0:=by omega
 clear H hG hB z1 z2 z3 z4 z5 z6 z7 y1 y2 y3 y4 y5 y6 y7 s0 s1
 generalize g.mk' s=gm at M1 M2 M3 M4 M5 M6 M7 G0
 generalize g.k1 s=K1 at M1 q1 M2
 generalize g.k2 s=K2 at M2 q2 M3
 generalize g.k3 s=K3 at M3 q3 M4
 generalize g.k4 s=K4 at M4 q4 M5
 generalize g.k5 s=K5 at M5 q5 M6
 generalize g.k6 s=K6 at M6 q6 M7
 generalize g.k7 s=K7 at M7 q7 ⊢
 have q1':decide (K1<0)=false:=decide_eq_false q1
 have q2':decide (K2<0)=false:=decide_eq_false q2
 have q3':decide (K3<0)=false:=decide_eq_false q3
 have q4':decide (K4<0)=false:=decide_eq_false q4
 have q5':decide (K5<0)=false:=decide_eq_false q5
 have q6':decide (K6<0)=false:=decide_eq_false q6
 have q7':decide (K7<0)=false:=decide_eq_false q7
 obtain ⟨x1,d1,x2,d2,x3,d3,x4,d4,x5,d5,x6,d6,x7,d7⟩:=x
 obtain ⟨⟨kd,ex,le⟩,rts,rus,tr,lv,⟨mo,li⟩,st,⟨nw,fl⟩,nx,dr⟩:=g
 simp only [Gt.val,Gt.cells,Rw.val,Fs.val] at M1 M2 M3 M4 M5 M6 M7 ⊢
 generalize rts.length=n1 at M1 ⊢
 generalize rus.length=n2 at M2 ⊢
 generalize tr.length=n3 at M3 ⊢
 generalize lv.length=n4 at M4 ⊢
 generalize li.length=n5 at M5 ⊢
 generalize st.length=n6 at M6 ⊢
 generalize fl.length=n7 at M7 ⊢
 obtain ⟨A,hAq⟩:∃ A,A=w.heap.size:=⟨_,rfl⟩
 obtain ⟨W0,hW⟩:∃ W,W=w.alloc (.cells (gc kd ex le (.slice x1 n1 d1) (.slice x2 n2 d2) (.slice x3 n3 d3) (.slice x4 n4 d4) mo (.slice x5 n5 d5) (.slice x6 n6 d6) nw (.slice x7 n7 d7) nx dr) 50):=⟨_,rfl⟩
 have Z0:Hid (Boxed W0 A (gc kd ex le (.slice x1 n1 d1) (.slice x2 n2 d2) (.slice x3 n3 d3) (.slice x4 n4 d4) mo (.slice x5 n5 d5) (.slice x6 n6 d6) nw (.slice x7 n7 d7) nx dr) 50∧GtV W0 ⟨x1,d1,x2,d2,x3,d3,x4,d4,x5,d5,x6,d6,x7,d7⟩ gm∧Below w.heap.size w W0):=by
  have bw:Below w.heap.size w W0:=by rw [hW];exact (Below.refl _ _).alloc nlr _
  exact ⟨by rw [hW,hAq];exact Boxed.new _ _ _,G0.out.below bw,bw⟩
 have HW:Hid (W0=_):=hW
 have HA:Hid (A=_):=hAq
 clear hW hAq G0
 go_enter Tryz.func12,Tryz.ntmps12
 go_upto_region 1 with fail
 rw [← HW.out,← HA.out]
 clear HW HA
 have c3:W0.cell? ⟨A,3,none⟩=some (.slice x1 n1 d1):=Z0.out.1.cell 3 rfl
 go_wp2_with fail
 refine (M1.out _ Z0.out.2.1).mono ?_
 rintro e W1 ⟨rfl,r⟩
 have Z1:Hid (Boxed W1 A (gc kd ex le (.slice x1 n1 d1) (.slice x2 n2 d2) (.slice x3 n3 d3) (.slice x4 n4 d4) mo (.slice x5 n5 d5) (.slice x6 n6 d6) nw (.slice x7 n7 d7) nx dr) 50∧GtV W1 ⟨x1,d1,x2,d2,x3,d3,x4,d4,x5,d5,x6,d6,x7,d7⟩ gm∧Below w.heap.size w W1):=⟨Z0.out.1.below Z0.out.1.under r,Z0.out.2.1.below r,Z0.out.2.2.trans (r.mono Z0.out.2.2.size)⟩
 clear r c3 Z0 M1
 have c4:W1.cell? ⟨A,4,none⟩=some (.slice x2 n2 d2):=Z1.out.1.cell 4 rfl
 go_wp2_with fail
 refine (M2.out _ Z1.out.2.1).mono ?_
 rintro e W2 ⟨rfl,r⟩
 have Z2:Hid (Boxed W2 A (gc kd ex le (.slice x1 n1 d1) (.slice x2 n2 d2) (.slice x3 n3 d3) (.slice x4 n4 d4) mo (.slice x5 n5 d5) (.slice x6 n6 d6) nw (.slice x7 n7 d7) nx dr) 50∧GtV W2 ⟨x1,d1,x2,d2,x3,d3,x4,d4,x5,d5,x6,d6,x7,d7⟩ gm∧Below w.heap.size w W2):=⟨Z1.out.1.below Z1.out.1.under r,Z1.out.2.1.below r,Z1.out.2.2.trans (r.mono Z1.out.2.2.size)⟩
 clear r c4 Z1 M2
 have c5:W2.cell? ⟨A,5,none⟩=some (.slice x3 n3 d3):=Z2.out.1.cell 5 rfl
 go_wp2_with fail
 refine (M3.out _ Z2.out.2.1).mono ?_
 rintro e W3 ⟨rfl,r⟩
 have Z3:Hid (Boxed W3 A (gc kd ex le (.slice x1 n1 d1) (.slice x2 n2 d2) (.slice x3 n3 d3) (.slice x4 n4 d4) mo (.slice x5 n5 d5) (.slice x6 n6 d6) nw (.slice x7 n7 d7) nx dr) 50∧GtV W3 ⟨x1,d1,x2,d2,x3,d3,x4,d4,x5,d5,x6,d6,x7,d7⟩ gm∧Below w.heap.size w W3):=⟨Z2.out.1.below Z2.out.1.under r,Z2.out.2.1.below r,Z2.out.2.2.trans (r.mono Z2.out.2.2.size)⟩
 clear r c5 Z2 M3
 have c6:W3.cell? ⟨A,6,none⟩=some (.slice x4 n4 d4):=Z3.out.1.cell 6 rfl
 go_wp2_with fail
 refine (M4.out _ Z3.out.2.1).mono ?_
 rintro e W4 ⟨rfl,r⟩
 have Z4:Hid (Boxed W4 A (gc kd ex le (.slice x1 n1 d1) (.slice x2 n2 d2) (.slice x3 n3 d3) (.slice x4 n4 d4) mo (.slice x5 n5 d5) (.slice x6 n6 d6) nw (.slice x7 n7 d7) nx dr) 50∧GtV W4 ⟨x1,d1,x2,d2,x3,d3,x4,d4,x5,d5,x6,d6,x7,d7⟩ gm∧Below w.heap.size w W4):=⟨Z3.out.1.below Z3.out.1.under r,Z3.out.2.1.below r,Z3.out.2.2.trans (r.mono Z3.out.2.2.size)⟩
 clear r c6 Z3 M4
 have c7:W4.cell? ⟨A,7,none⟩=some (.int .i64 mo):=Z4.out.1.cell 7 rfl
 have c8:W4.cell? ⟨A,8,none⟩=some (.slice x5 n5 d5):=Z4.out.1.cell 8 rfl
 go_wp2_with fail
 refine (M5.out _ Z4.out.2.1).mono ?_
 rintro e W5 ⟨rfl,r⟩
 have Z5:Hid (Boxed W5 A (gc kd ex le (.slice x1 n1 d1) (.slice x2 n2 d2) (.slice x3 n3 d3) (.slice x4 n4 d4) mo (.slice x5 n5 d5) (.slice x6 n6 d6) nw (.slice x7 n7 d7) nx dr) 50∧GtV W5 ⟨x1,d1,x2,d2,x3,d3,x4,d4,x5,d5,x6,d6,x7,d7⟩ gm∧Below w.heap.size w W5):=⟨Z4.out.1.below Z4.out.1.under r,Z4.out.2.1.below r,Z4.out.2.2.trans (r.mono Z4.out.2.2.size)⟩
 clear r c7 c8 Z4 M5
 have c9:W5.cell? ⟨A,9,none⟩=some (.slice x6 n6 d6):=Z5.out.1.cell 9 rfl
 go_wp2_with fail
 refine (M6.out _ Z5.out.2.1).mono ?_
 rintro e W6 ⟨rfl,r⟩
 have Z6:Hid (Boxed W6 A (gc kd ex le (.slice x1 n1 d1) (.slice x2 n2 d2) (.slice x3 n3 d3) (.slice x4 n4 d4) mo (.slice x5 n5 d5) (.slice x6 n6 d6) nw (.slice x7 n7 d7) nx dr) 50∧GtV W6 ⟨x1,d1,x2,d2,x3,d3,x4,d4,x5,d5,x6,d6,x7,d7⟩ gm∧Below w.heap.size w W6):=⟨Z5.out.1.below Z5.out.1.under r,Z5.out.2.1.below r,Z5.out.2.2.trans (r.mono Z5.out.2.2.size)⟩
 clear r c9 Z5 M6
 have c10:W6.cell? ⟨A,10,none⟩=some (.int .i64 nw):=Z6.out.1.cell 10 rfl
 have c11:W6.cell? ⟨A,11,none⟩=some (.slice x7 n7 d7):=Z6.out.1.cell 11 rfl
 go_wp2_with fail
 refine (M7.out _ Z6.out.2.1).mono ?_
 rintro e W7 ⟨rfl,r⟩
 have Z7:Hid (Boxed W7 A (gc kd ex le (.slice x1 n1 d1) (.slice x2 n2 d2) (.slice x3 n3 d3) (.slice x4 n4 d4) mo (.slice x5 n5 d5) (.slice x6 n6 d6) nw (.slice x7 n7 d7) nx dr) 50∧GtV W7 ⟨x1,d1,x2,d2,x3,d3,x4,d4,x5,d5,x6,d6,x7,d7⟩ gm∧Below w.heap.size w W7):=⟨Z6.out.1.below Z6.out.1.under r,Z6.out.2.1.below r,Z6.out.2.2.trans (r.mono Z6.out.2.2.size)⟩
 clear r c10 c11 Z6 M7
 go_wp2
 go_ret
 exact ⟨rfl,Z7.out.2.2⟩
theorem fnExactMoved_of (impl':∀ (g:Gt) (v:Value) (n:Int) (w:World),g.big≤1048576→Hid (GtAt w v g)→Calls Tryz.prog 9 #[v,.int .i64 n] w fun e w'=>(∃ v',e = .returned (.tuple #[v',.bool (g.movedB n)])∧GtIn w.heap.size w'.heap.size w' v' (g.moved n))∧Below w.heap.size w w')
 (g:Gt) (x:Ga) (n:Int) (w:World) (hl:GtLen g) (h:Hid (GtV w x g)) :
 Calls Tryz.prog 3 #[g.val x,.int .i64 n] w fun e w'=>e = .returned (.bool true)∧Below w.heap.size w w':=by
 have S:=fun (w:World) (h:Hid (GtV w x g))=>szGts 1048576 (by omega) (by omega) g x w hl h
 have hcs:(g.cells x).size=14∧(g.cells x).all (·.oneCell')=true:=⟨Gt.cells_size g x,Gt.cells_one g x⟩
 by_cases hbig:(1048576:Int)-(g.big:Nat)<0
 ·rw [if_pos hbig] at S
  unfold Gt.val at S ⊢
  have K:Hid (∀ w',Below w.heap.size w w'→GtV w' x g):=fun w' q=>h.out.below q
  generalize g.cells x=cs at S hcs ⊢
  have S':Hid _:=S
  obtain ⟨W,hW⟩:∃ W,W=w.alloc (.cells cs 36):=⟨_,rfl⟩
  have X0:Hid (Lies w [Thing.box w.heap.size cs 36] W):=by
   rw [hW]
   exact ⟨⟨Boxed.new _ _ _,trivial⟩,(Below.refl _ _).alloc nlr _⟩
  have HW:Hid (W=_):=hW
  have Hcs:Hid _:=hcs
  clear S hW hcs h hbig
  go_enter Tryz.func3,Tryz.ntmps3
  go_upto_region 2 with fail
  rw [← HW.out]
  clear HW
  go_wp2_with (refine wpList_load_row rfl 36 (.tmp 2) rfl w.heap.size rfl _ _ _ _ (show Boxed _ _ _ _ from X0.out.1.1) Tryz.underlying36 rfl (by rw [Hcs.out.1];kernel_rfl) ?_)
  refine (S'.out _ (K.out _ X0.out.2)).mono ?_
  rintro e w1 ⟨rfl,q⟩
  have X1:Hid (Below w.heap.size w w1):=X0.out.2.trans (q.mono X0.out.2.size)
  clear q
  go_wp2
  go_ret
  exact ⟨rfl,X1.out⟩
 rw [if_neg hbig] at S
 have hB:g.big≤1048576:=by omega
 have TT:∀ w,Hid (GtV w x g)→Calls Tryz.prog 8 #[g.val x] w fun e w'=>(∃ c:Array Value,e = .returned (.agg c)∧(c.size=14∧c.all (·.oneCell')=true)∧GtIn w.heap.size w'.heap.size w' (.agg c) g)∧Below w.heap.size w w':=fun w h=>(toGts g x w hB h).mono fun e w' hh=>by
  obtain ⟨⟨v,rfl,hi⟩,hb⟩:=hh
  obtain ⟨x',rfl⟩:=hi.cells
  exact ⟨⟨_,rfl,⟨Gt.cells_size g x',Gt.cells_one g x'⟩,hi⟩,hb⟩
 have hXB:(g.moved n).big≤1048576:=Gt.moved_big hB
 obtain ⟨X,hXe⟩:∃ X,g.moved n=X:=⟨_,rfl⟩
 obtain ⟨u0,hu0⟩:∃ u,g.movedB n=u:=⟨_,rfl⟩
 have C:∀ v w,Hid (GtAt w v g)→Calls Tryz.prog 7 #[v,.int .i64 n] w fun e w'=>(∃ c:Array Value,e = .returned (.tuple #[.agg c,.bool u0])∧(c.size=14∧c.all (·.oneCell')=true)∧GtLie w.heap.size w'.heap.size w' (.agg c) X)∧Below w.heap.size w w':=fun v w h=>(specMoved g v n w hB h).mono fun e w' hh=>by
  rw [hXe,hu0] at hh
  obtain ⟨⟨v,rfl,hi⟩,hb⟩:=hh
  obtain ⟨x',rfl⟩:=hi.cells
  exact ⟨⟨_,rfl,⟨Gt.cells_size X x',Gt.cells_one X x'⟩,hi⟩,hb⟩
 have D:∀ v w,Hid (GtAt w v g)→Calls Tryz.prog 9 #[v,.int .i64 n] w fun e w'=>(∃ c:Array Value,e = .returned (.tuple #[.agg c,.bool u0])∧(c.size=14∧c.all (·.oneCell')=true)∧GtIn w.heap.size w'.heap.size w' (.agg c) X)∧Below w.heap.size w w':=fun v w h=>(impl' g v n w hB h).mono fun e w' hh=>by
  rw [hXe,hu0] at hh
  obtain ⟨⟨v,rfl,hi⟩,hb⟩:=hh
  obtain ⟨x',rfl⟩:=hi.cells
  exact ⟨⟨_,rfl,⟨Gt.cells_size X x',Gt.cells_one X x'⟩,hi⟩,hb⟩
 rw [hXe] at hXB
 have ER:=fun v1 v2 w h1 h2=>eqGts v1 v2 g w hB h1 h2
 have EX:=fun v1 v2 w h1 h2=>eqGts v1 v2 X w hXB h1 h2
 have MR:∀ b t v w,Hid (GtIn b t w v g)→Calls Tryz.prog 11 #[v,.int .i64 1] w fun e w'=>e = .returned (.int .i64 (g.k7 1))∧Span b t w w':=fun b t v w h=>(markGts 1 (by omega) (by omega) b t v g w hB h).mono fun _ _ hh=>⟨hh.1,hh.2.2⟩
 have MX:=fun b t v w h=>markGts 1 (by omega) (by omega) b t v X w hXB h
 have HX:=fun v w h=>heldGts 1 (by omega) (by omega) v X w hXB h
 have m0:¬ g.k7 1<0:=by have:=(Gt.ks hB (s:=1) (by omega) (by omega)).2.2.2.2.2.2;omega
 have m1:¬ X.k7 1<0:=by have:=(Gt.ks hXB (s:=1) (by omega) (by omega)).2.2.2.2.2.2;omega
 generalize g.k7 1=kr at MR m0
 generalize X.k7 1=kx at MX HX m1
 obtain ⟨Xm,hXm⟩:∃ Xm,X.mk' 1=Xm:=⟨_,rfl⟩
 rw [hXm] at MX HX
 have hb0:¬ (1048576:Int)-(g.big:Nat)<0:=hbig
 generalize (1048576:Int)-(g.big:Nat)=left at S hb0
 have K:Hid (∀ w',Below w.heap.size w w'→GtV w' x g):=fun w' q=>h.out.below q
 unfold Gt.val at S TT ⊢
 generalize g.cells x=cs at S TT hcs ⊢
 have S':Hid _:=S
 have TT':Hid _:=TT
 have C':Hid _:=C
 have D':Hid _:=D
 have ER':Hid _:=ER
 have EX':Hid _:=EX
 have MR':Hid _:=MR
 have MX':Hid _:=MX
 have HX':Hid _:=HX
 obtain ⟨W,hW⟩:∃ W,W=w.alloc (.cells cs 36):=⟨_,rfl⟩
 have X0:Hid (Lies w [Thing.box w.heap.size cs 36] W):=by
  rw [hW]
  exact ⟨⟨Boxed.new _ _ _,trivial⟩,(Below.refl _ _).alloc nlr _⟩
 have HW:Hid (W=_):=hW
 have Hcs:Hid _:=hcs
 clear S TT C D ER EX MR MX HX hbig hB hXB hXe hu0 hXm hl h hcs hW
 go_enter Tryz.func3,Tryz.ntmps3
 go_upto_region 2 with fail
 rw [← HW.out]
 clear HW
 go_wp2_with (refine wpList_load_row rfl 36 (.tmp 2) rfl w.heap.size rfl _ _ _ _ (show Boxed _ _ _ _ from X0.out.1.1) Tryz.underlying36 rfl (by rw [Hcs.out.1];kernel_rfl) ?_)
 refine (S'.out _ (K.out _ X0.out.2)).mono ?_
 rintro e w1 ⟨rfl,q⟩
 have Z1:Hid (Lies w [Thing.box w.heap.size cs 36] w1):=X0.out.below q
 clear q X0 S'
 go_upto_region 5 with fail
 go_wp2_with (refine wpList_load_row rfl 36 (.tmp 2) rfl w.heap.size rfl _ _ _ _ (show Boxed _ _ _ _ from Z1.out.1.1) Tryz.underlying36 rfl (by rw [Hcs.out.1];kernel_rfl) ?_)
 refine (TT'.out _ (K.out _ Z1.out.2)).mono ?_
 rintro e wAZ2 ⟨⟨cA,rfl,-,iA⟩,q⟩
 have Z2:Hid (Lies w [Thing.box w.heap.size cs 36] wAZ2):=Z1.out.below q
 have AT:Hid (GtAt wAZ2 (.agg cA) g):=iA.at
 clear q iA Z1
 go_wp2_with fail
 refine (C'.out _ _ AT).mono ?_
 rintro e wY ⟨⟨c0,rfl,hc,iY⟩,q⟩
 have Hc0:Hid (c0.size=14∧c0.all (·.oneCell')=true):=hc
 clear hc AT
 have N:Hid (Boxed (wY.alloc (.cells #[.int .i64 0,.int .i64 0,.int .i64 0,.slice none 0 0,.slice none 0 0,.slice none 0 0,.slice none 0 0,.int .i64 0,.slice none 0 0,.slice none 0 0,.int .i64 0,.slice none 0 0,.int .i64 0,.int .i64 0] 50)) wY.heap.size #[.int .i64 0,.int .i64 0,.int .i64 0,.slice none 0 0,.slice none 0 0,.slice none 0 0,.slice none 0 0,.int .i64 0,.slice none 0 0,.slice none 0 0,.int .i64 0,.slice none 0 0,.int .i64 0,.int .i64 0] 50):=Boxed.new _ _ _
 go_upto_region 6 with (refine wpList_store_row rfl 50 (.tmp 6) (.tmp 26) rfl wY.heap.size c0 rfl rfl _ _ N.out (by rw [Hc0.out.1];kernel_rfl) (by rw [Hc0.out.1];rfl) Hc0.out.2 ?_)
 try simp only [Act.put]
 have bN:Below wY.heap.size wY ((wY.alloc (.cells #[.int .i64 0,.int .i64 0,.int .i64 0,.slice none 0 0,.slice none 0 0,.slice none 0 0,.slice none 0 0,.int .i64 0,.slice none 0 0,.slice none 0 0,.int .i64 0,.slice none 0 0,.int .i64 0,.int .i64 0] 50)).setRow wY.heap.size c0):=below_setRow ((Below.refl _ _).alloc nlr _) nlr _
 have Z3:Hid (Lies w [Thing.box w.heap.size cs 36,Thing.own (fun W=>GtLie wAZ2.heap.size wY.heap.size W (.agg c0) X) wAZ2.heap.size wY.heap.size (fun h s k=>GtLie.keep h s k),Thing.box wY.heap.size c0 50] ((wY.alloc (.cells #[.int .i64 0,.int .i64 0,.int .i64 0,.slice none 0 0,.slice none 0 0,.slice none 0 0,.slice none 0 0,.int .i64 0,.slice none 0 0,.slice none 0 0,.int .i64 0,.slice none 0 0,.int .i64 0,.int .i64 0] 50)).setRow wY.heap.size c0)∧wAZ2.heap.size≤wY.heap.size∧wY.heap.size+1≤((wY.alloc (.cells #[.int .i64 0,.int .i64 0,.int .i64 0,.slice none 0 0,.slice none 0 0,.slice none 0 0,.slice none 0 0,.int .i64 0,.slice none 0 0,.slice none 0 0,.int .i64 0,.slice none 0 0,.int .i64 0,.int .i64 0] 50)).setRow wY.heap.size c0).heap.size∧w.heap.size+1≤wAZ2.heap.size):=⟨(Z2.out.below q).more bN ⟨⟨GtLie.below iY bN,bN.size⟩,setRow_heap _ _ _ _ _ _ N.out,trivial⟩,q.size,by rw [size_setRow];simp,Boxed.under (show Boxed _ w.heap.size _ _ from Z2.out.1.1)⟩
 clear bN q iY N Z2
 generalize ((wY.alloc (.cells #[.int .i64 0,.int .i64 0,.int .i64 0,.slice none 0 0,.slice none 0 0,.slice none 0 0,.slice none 0 0,.int .i64 0,.slice none 0 0,.slice none 0 0,.int .i64 0,.slice none 0 0,.int .i64 0,.int .i64 0] 50)).setRow wY.heap.size c0)=w0 at Z3 ⊢
 generalize wY.heap.size=t0 at Z3 ⊢
 generalize wAZ2.heap.size=b0 at Z3
 have Z3A:Hid (Lies w [Thing.box w.heap.size cs 36,Thing.own (fun W=>GtLie b0 t0 W (.agg c0) X) b0 t0 (fun h s k=>GtLie.keep h s k),Thing.box t0 c0 50] w0):=Z3.out.1
 have O0:Hid (b0≤t0∧t0+1≤w0.heap.size∧w.heap.size+1≤b0):=Z3.out.2
 clear Z3
 go_wp2_with (refine wpList_load_row rfl 36 (.tmp 2) rfl w.heap.size rfl _ _ _ _ (show Boxed _ _ _ _ from Z3A.out.1.1) Tryz.underlying36 rfl (by rw [Hcs.out.1];kernel_rfl) ?_)
 refine (TT'.out _ (K.out _ Z3A.out.2)).mono ?_
 rintro e wY ⟨⟨cx,rfl,hc,iY⟩,q⟩
 have Hcx:Hid (cx.size=14∧cx.all (·.oneCell')=true):=hc
 clear hc
 have N:Hid (Boxed (wY.alloc (.cells #[.int .i64 0,.int .i64 0,.int .i64 0,.slice none 0 0,.slice none 0 0,.slice none 0 0,.slice none 0 0,.int .i64 0,.slice none 0 0,.slice none 0 0,.int .i64 0,.slice none 0 0,.int .i64 0,.int .i64 0] 50)) wY.heap.size #[.int .i64 0,.int .i64 0,.int .i64 0,.slice none 0 0,.slice none 0 0,.slice none 0 0,.slice none 0 0,.int .i64 0,.slice none 0 0,.slice none 0 0,.int .i64 0,.slice none 0 0,.int .i64 0,.int .i64 0] 50):=Boxed.new _ _ _
 go_upto_region 7 with (refine wpList_store_row rfl 50 (.tmp 8) (.tmp 29) rfl wY.heap.size cx rfl rfl _ _ N.out (by rw [Hcx.out.1];kernel_rfl) (by rw [Hcx.out.1];rfl) Hcx.out.2 ?_)
 try simp only [Act.put]
 have bN:Below wY.heap.size wY ((wY.alloc (.cells #[.int .i64 0,.int .i64 0,.int .i64 0,.slice none 0 0,.slice none 0 0,.slice none 0 0,.slice none 0 0,.int .i64 0,.slice none 0 0,.slice none 0 0,.int .i64 0,.slice none 0 0,.int .i64 0,.int .i64 0] 50)).setRow wY.heap.size cx):=below_setRow ((Below.refl _ _).alloc nlr _) nlr _
 have Z4:Hid (Lies w [Thing.box w.heap.size cs 36,Thing.own (fun W=>GtLie b0 t0 W (.agg c0) X) b0 t0 (fun h s k=>GtLie.keep h s k),Thing.box t0 c0 50,Thing.own (fun W=>GtIn w0.heap.size wY.heap.size W (.agg cx) g) w0.heap.size wY.heap.size (fun h s k=>GtIn.keep h s k),Thing.box wY.heap.size cx 50] ((wY.alloc (.cells #[.int .i64 0,.int .i64 0,.int .i64 0,.slice none 0 0,.slice none 0 0,.slice none 0 0,.slice none 0 0,.int .i64 0,.slice none 0 0,.slice none 0 0,.int .i64 0,.slice none 0 0,.int .i64 0,.int .i64 0] 50)).setRow wY.heap.size cx)∧w0.heap.size≤wY.heap.size∧wY.heap.size+1≤((wY.alloc (.cells #[.int .i64 0,.int .i64 0,.int .i64 0,.slice none 0 0,.slice none 0 0,.slice none 0 0,.slice none 0 0,.int .i64 0,.slice none 0 0,.slice none 0 0,.int .i64 0,.slice none 0 0,.int .i64 0,.int .i64 0] 50)).setRow wY.heap.size cx).heap.size∧w.heap.size+1≤w0.heap.size):=⟨(Z3A.out.below q).more bN ⟨⟨GtIn.below iY bN,bN.size⟩,setRow_heap _ _ _ _ _ _ N.out,trivial⟩,q.size,by rw [size_setRow];simp,Boxed.under (show Boxed _ w.heap.size _ _ from Z3A.out.1.1)⟩
 clear bN q iY N Z3A
 generalize ((wY.alloc (.cells #[.int .i64 0,.int .i64 0,.int .i64 0,.slice none 0 0,.slice none 0 0,.slice none 0 0,.slice none 0 0,.int .i64 0,.slice none 0 0,.slice none 0 0,.int .i64 0,.slice none 0 0,.int .i64 0,.int .i64 0] 50)).setRow wY.heap.size cx)=wx at Z4 ⊢
 generalize wY.heap.size=tx at Z4 ⊢
 generalize w0.heap.size=bx at Z4 O0
 have Z4A:Hid (Lies w [Thing.box w.heap.size cs 36,Thing.own (fun W=>GtLie b0 t0 W (.agg c0) X) b0 t0 (fun h s k=>GtLie.keep h s k),Thing.box t0 c0 50,Thing.own (fun W=>GtIn bx tx W (.agg cx) g) bx tx (fun h s k=>GtIn.keep h s k),Thing.box tx cx 50] wx):=Z4.out.1
 have Ox:Hid (bx≤tx∧tx+1≤wx.heap.size∧w.heap.size+1≤bx):=Z4.out.2
 clear Z4
 have OO:Hid (_∧_):=⟨O0.out,Ox.out⟩
 clear O0 Ox
 go_wp2_with (refine wpList_load_row rfl 50 (.tmp 8) rfl tx rfl _ _ _ _ (show Boxed _ _ _ _ from Z4A.out.1.2.2.2.2.1) Tryz.underlying50 rfl (by rw [Hcx.out.1];kernel_rfl) ?_)
 refine (D'.out _ _ (GtIn.at (show GtIn _ _ _ _ _ from Z4A.out.1.2.2.2.1.1))).mono ?_
 rintro e wY ⟨⟨c2,rfl,hc,iY⟩,q⟩
 have Hc2:Hid (c2.size=14∧c2.all (·.oneCell')=true):=hc
 clear hc
 have N:Hid (Boxed (wY.alloc (.cells #[.int .i64 0,.int .i64 0,.int .i64 0,.slice none 0 0,.slice none 0 0,.slice none 0 0,.slice none 0 0,.int .i64 0,.slice none 0 0,.slice none 0 0,.int .i64 0,.slice none 0 0,.int .i64 0,.int .i64 0] 50)) wY.heap.size #[.int .i64 0,.int .i64 0,.int .i64 0,.slice none 0 0,.slice none 0 0,.slice none 0 0,.slice none 0 0,.int .i64 0,.slice none 0 0,.slice none 0 0,.int .i64 0,.slice none 0 0,.int .i64 0,.int .i64 0] 50):=Boxed.new _ _ _
 go_upto_region 8 with (refine wpList_store_row rfl 50 (.tmp 9) (.tmp 34) rfl wY.heap.size c2 rfl rfl _ _ N.out (by rw [Hc2.out.1];kernel_rfl) (by rw [Hc2.out.1];rfl) Hc2.out.2 ?_)
 try simp only [Act.put]
 have bN:Below wY.heap.size wY ((wY.alloc (.cells #[.int .i64 0,.int .i64 0,.int .i64 0,.slice none 0 0,.slice none 0 0,.slice none 0 0,.slice none 0 0,.int .i64 0,.slice none 0 0,.slice none 0 0,.int .i64 0,.slice none 0 0,.int .i64 0,.int .i64 0] 50)).setRow wY.heap.size c2):=below_setRow ((Below.refl _ _).alloc nlr _) nlr _
 have Z5:Hid (Lies w [Thing.box w.heap.size cs 36,Thing.own (fun W=>GtLie b0 t0 W (.agg c0) X) b0 t0 (fun h s k=>GtLie.keep h s k),Thing.box t0 c0 50,Thing.own (fun W=>GtIn bx tx W (.agg cx) g) bx tx (fun h s k=>GtIn.keep h s k),Thing.box tx cx 50,Thing.own (fun W=>GtIn wx.heap.size wY.heap.size W (.agg c2) X) wx.heap.size wY.heap.size (fun h s k=>GtIn.keep h s k),Thing.box wY.heap.size c2 50] ((wY.alloc (.cells #[.int .i64 0,.int .i64 0,.int .i64 0,.slice none 0 0,.slice none 0 0,.slice none 0 0,.slice none 0 0,.int .i64 0,.slice none 0 0,.slice none 0 0,.int .i64 0,.slice none 0 0,.int .i64 0,.int .i64 0] 50)).setRow wY.heap.size c2)∧wx.heap.size≤wY.heap.size∧wY.heap.size+1≤((wY.alloc (.cells #[.int .i64 0,.int .i64 0,.int .i64 0,.slice none 0 0,.slice none 0 0,.slice none 0 0,.slice none 0 0,.int .i64 0,.slice none 0 0,.slice none 0 0,.int .i64 0,.slice none 0 0,.int .i64 0,.int .i64 0] 50)).setRow wY.heap.size c2).heap.size∧w.heap.size+1≤wx.heap.size):=⟨(Z4A.out.below q).more bN ⟨⟨GtIn.below iY bN,bN.size⟩,setRow_heap _ _ _ _ _ _ N.out,trivial⟩,q.size,by rw [size_setRow];simp,Boxed.under (show Boxed _ w.heap.size _ _ from Z4A.out.1.1)⟩
 clear bN q iY N Z4A
 generalize ((wY.alloc (.cells #[.int .i64 0,.int .i64 0,.int .i64 0,.slice none 0 0,.slice none 0 0,.slice none 0 0,.slice none 0 0,.int .i64 0,.slice none 0 0,.slice none 0 0,.int .i64 0,.slice none 0 0,.int .i64 0,.int .i64 0] 50)).setRow wY.heap.size c2)=w2 at Z5 ⊢
 generalize wY.heap.size=t2 at Z5 ⊢
 generalize wx.heap.size=b2 at Z5 OO
 have Z5A:Hid (Lies w [Thing.box w.heap.size cs 36,Thing.own (fun W=>GtLie b0 t0 W (.agg c0) X) b0 t0 (fun h s k=>GtLie.keep h s k),Thing.box t0 c0 50,Thing.own (fun W=>GtIn bx tx W (.agg cx) g) bx tx (fun h s k=>GtIn.keep h s k),Thing.box tx cx 50,Thing.own (fun W=>GtIn b2 t2 W (.agg c2) X) b2 t2 (fun h s k=>GtIn.keep h s k),Thing.box t2 c2 50] w2):=Z5.out.1
 have O2:Hid (b2≤t2∧t2+1≤w2.heap.size∧w.heap.size+1≤b2):=Z5.out.2
 clear Z5
 have O9:Hid (_∧_):=And.intro OO.out (O2.out)
 clear O2 OO
 go_wp2_with (first|(refine wpList_load_row rfl 50 (.tmp 9) rfl t2 rfl _ _ _ _ (show Boxed _ _ _ _ from Z5A.out.1.2.2.2.2.2.2.1) Tryz.underlying50 rfl (by rw [Hc2.out.1];kernel_rfl) ?_)|(refine wpList_load_row rfl 50 (.tmp 6) rfl t0 rfl _ _ _ _ (show Boxed _ _ _ _ from Z5A.out.1.2.2.1) Tryz.underlying50 rfl (by rw [Hc0.out.1];kernel_rfl) ?_))
 refine (EX'.out _ _ _ (GtIn.at (show GtIn _ _ _ _ _ from Z5A.out.1.2.2.2.2.2.1.1)) (GtLie.at (show GtLie _ _ _ _ _ from Z5A.out.1.2.1.1))).mono ?_
 rintro e wE5 ⟨rfl,q⟩
 have Z6:Hid (Lies w [Thing.box w.heap.size cs 36,Thing.own (fun W=>GtLie b0 t0 W (.agg c0) X) b0 t0 (fun h s k=>GtLie.keep h s k),Thing.box t0 c0 50,Thing.own (fun W=>GtIn bx tx W (.agg cx) g) bx tx (fun h s k=>GtIn.keep h s k),Thing.box tx cx 50,Thing.own (fun W=>GtIn b2 t2 W (.agg c2) X) b2 t2 (fun h s k=>GtIn.keep h s k),Thing.box t2 c2 50] wE5):=Z5A.out.below q
 clear q Z5A
 go_upto_region 10 with fail
 go_cut [49] (fun s wc=>Hid (s = .bool false∧Lies w [Thing.box w.heap.size cs 36,Thing.own (fun W=>GtLie b0 t0 W (.agg c0) X) b0 t0 (fun h s k=>GtLie.keep h s k),Thing.box t0 c0 50,Thing.own (fun W=>GtIn bx tx W (.agg cx) g) bx tx (fun h s k=>GtIn.keep h s k),Thing.box tx cx 50,Thing.own (fun W=>GtIn b2 t2 W (.agg c2) X) b2 t2 (fun h s k=>GtIn.keep h s k),Thing.box t2 c2 50] wc))
 case first =>
  go_wp2_with fail
  refine region_lists (G:=Array Value) (by kernel_rfl) (by kernel_rfl) (by kernel_rfl) (fun _=>99) (fun (_:Nat→Bool) (_:Array Value) (x:World)=>Below wE5.heap.size wE5 x) (fun i (y:Array Value) x y' x'=>(i≠2→y'=y)∧Below x.heap.size x x') (fun kk y x u=>([fun _ _ u=>u = .agg cx,fun _ _ u=>u = .agg cs,fun (y:Array Value) x u=>u = .agg y∧GtAt x (.agg y) g,fun _ _ u=>u = .bool true,fun _ _ u=>u = .bool false]:List (Array Value→World→Value→Prop)).getD kk (fun _ _ _=>True) y x u) ?hR #[] ?h0 ?step ?last
  case hR =>
   intro i' j' y y' x x' u hi1 hj1 hne hu h1 h2 hp hr
   have hj':j'<5:=hj1
   have hcases:j'=0∨j'=1∨j'=2∨j'=3∨j'=4:=by omega
   rcases hcases with rfl|rfl|rfl|rfl|rfl
   ·exact hp
   ·exact hp
   ·obtain ⟨e,r⟩:=hp
    have ey:=hr.1 hne
    subst ey
    exact ⟨e,r.below hr.2⟩
   ·exact hp
   ·exact hp
  case h0=>exact (Below.refl _ _).drew
  case step =>
   intro q o hq ho L a y x hLi hwt hre hkp hI hp
   have LX:=Z6.out.below hI
   have sx:a.eval (.tmp 8) = .pointer (some ⟨tx,0,none⟩):=by have h2:a.tmps.getD 8 undef = .pointer (some ⟨tx,0,none⟩):=hkp.slot 8 (by kernel_rfl);simpa [Act.eval] using h2
   have sp:a.eval (.tmp 2) = .pointer (some ⟨w.heap.size,0,none⟩):=by have h2:a.tmps.getD 2 undef = .pointer (some ⟨w.heap.size,0,none⟩):=hkp.slot 2 (by kernel_rfl);simpa [Act.eval] using h2
   have hq':q<5:=hq
   have hcases:q=0∨q=1∨q=2∨q=3∨q=4:=by omega
   rcases hcases with rfl|rfl|rfl|rfl|rfl
   ·cases ho
    exact ⟨wno rfl,wp_load_row 50 (.tmp 8) rfl tx sx _ _ _ _ (show Boxed _ _ _ _ from LX.1.2.2.2.2.1) Tryz.underlying50 rfl (by rw [Hcx.out.1];kernel_rfl) ⟨_,y,rfl,⟨fun _=>rfl,Below.refl _ _⟩,hI,fun u hu=>hu (fun h=>by cases h)⟩⟩
   ·cases ho
    exact ⟨wno rfl,wp_load_row 36 (.tmp 2) rfl w.heap.size sp _ _ _ _ (show Boxed _ _ _ _ from LX.1.1) Tryz.underlying36 rfl (by rw [Hcs.out.1];kernel_rfl) ⟨_,y,rfl,⟨fun _=>rfl,Below.refl _ _⟩,hI,fun u hu=>hu (fun h=>by cases h)⟩⟩
   ·cases ho
    have e1:a.tmps.getD 46 undef = .agg cs:=hp 1 (od (by kernel_rfl)) (.inr (by decide))
    have q1:a.tmps[46]?.getD undef = .agg cs:=by simpa using e1
    refine ⟨wno rfl,op_callR (by simp [execOp,resolve,Deferred.ofValue,invoke,Act.eval,q1]) (TT'.out x (K.out _ LX.2)) ?_⟩
    rintro e z ⟨⟨cA,rfl,-,iA⟩,qb⟩
    exact ⟨_,rfl,_,cA,rfl,⟨fun h=>absurd rfl h,qb⟩,hI.trans (qb.mono hI.size),fun u hu=>⟨hu (fun h=>by cases h),iA.at⟩⟩
   ·cases ho
    have e0:a.tmps.getD 45 undef = .agg cx:=hp 0 (od (by kernel_rfl)) (.inr (by decide))
    have q0:a.tmps[45]?.getD undef = .agg cx:=by simpa using e0
    have e2:a.tmps.getD 47 undef = .agg y:=(hp 2 (od (by kernel_rfl)) (.inr (by decide))).1
    have q2:a.tmps[47]?.getD undef = .agg y:=by simpa using e2
    have at2:GtAt x (.agg y) g:=(hp 2 (od (by kernel_rfl)) (.inr (by decide))).2
    refine ⟨wno rfl,op_callR (by simp [execOp,resolve,Deferred.ofValue,invoke,Act.eval,q0,q2]) (ER'.out _ _ x (GtIn.at (show GtIn _ _ _ _ _ from LX.1.2.2.2.1.1)) at2) ?_⟩
    rintro e z ⟨rfl,qb⟩
    exact ⟨_,rfl,_,y,rfl,⟨fun _=>rfl,qb⟩,hI.trans (qb.mono hI.size),fun u hu=>hu (fun h=>by cases h)⟩
   ·cases ho
    have e3:a.tmps.getD 48 undef = .bool true:=hp 3 (od (by kernel_rfl)) (.inr (by decide))
    have q3:a.tmps[48]?.getD undef = .bool true:=by simpa using e3
    refine ⟨wno rfl,Oper.wp_mono (K:=fun a'' w''=>a''=a.put (some 49) (.bool false)∧w''=x) ?_ ?_⟩
    ·rintro _ _ ⟨rfl,rfl⟩
     exact ⟨_,y,rfl,⟨fun _=>rfl,Below.refl _ _⟩,hI,fun u hu=>hu (fun h=>by cases h)⟩
    ·unfold Oper.wp
     simp [go_sem,q3]
  case last =>
  intro L a y x hall hkp hI hp
  have e4:a.tmps.getD 49 undef = .bool false:=hp 4 (by decide) (by decide)
  have Fin:Hid (a.tmps.getD 49 undef = .bool false∧Lies w [Thing.box w.heap.size cs 36,Thing.own (fun W=>GtLie b0 t0 W (.agg c0) X) b0 t0 (fun h s k=>GtLie.keep h s k),Thing.box t0 c0 50,Thing.own (fun W=>GtIn bx tx W (.agg cx) g) bx tx (fun h s k=>GtIn.keep h s k),Thing.box tx cx 50,Thing.own (fun W=>GtIn b2 t2 W (.agg c2) X) b2 t2 (fun h s k=>GtIn.keep h s k),Thing.box t2 c2 50] x):=⟨e4,Z6.out.below hI⟩
  have ha:=hkp.pick [true,true,true,true,true,true,true,true,true,true,true,true,true,true,true,true,true,true,true,true,true,true,true,true,true,true,true,true,true,true,true,true,true,true,true,true,true,true,true,true,true,true,true,true,true,false,false,false,false,false,true,true,true,true,true,true,true,true,true,true,true,true,true,true,true,true,true,true,true,true,true,true,true,true,true,true,true,true,true,true,true,true,true,true,true,true,true,true,true,true,true,true,true,true,true,true,true,true,true,true,true] (by kernel_rfl)
  simp only [pickS] at ha
  clear hp hkp hI hall e4
  generalize a.tmps.getD 45 undef=y45 at ha
  generalize a.tmps.getD 46 undef=y46 at ha
  generalize a.tmps.getD 47 undef=y47 at ha
  generalize a.tmps.getD 48 undef=y48 at ha
  generalize a.tmps.getD 49 undef=y49 at ha Fin
  rw [ha]
  clear ha
  go_wp2_with fail
  go_meet
  exact Fin.out
 case rest =>
 obtain ⟨rfl,hP⟩:=hcut.out
 obtain ⟨wF,rfl⟩:∃ wF,wF=wc:=⟨_,rfl⟩
 have Z7:Hid (Lies w [Thing.box w.heap.size cs 36,Thing.own (fun W=>GtLie b0 t0 W (.agg c0) X) b0 t0 (fun h s k=>GtLie.keep h s k),Thing.box t0 c0 50,Thing.own (fun W=>GtIn bx tx W (.agg cx) g) bx tx (fun h s k=>GtIn.keep h s k),Thing.box tx cx 50,Thing.own (fun W=>GtIn b2 t2 W (.agg c2) X) b2 t2 (fun h s k=>GtIn.keep h s k),Thing.box t2 c2 50] wF):=hP
 clear hcut hP Z6
 go_upto_region 13 with fail
 go_wp2_with (refine wpList_load_row rfl 50 (.tmp 8) rfl tx rfl _ _ _ _ (show Boxed _ _ _ _ from Z7.out.1.2.2.2.2.1) Tryz.underlying50 rfl (by rw [Hcx.out.1];kernel_rfl) ?_)
 refine (MR'.out bx tx _ _ (show GtIn _ _ _ _ _ from Z7.out.1.2.2.2.1.1)).mono ?_
 rintro e wG ⟨rfl,q⟩
 have Z8:Hid (Lies w [Thing.box w.heap.size cs 36,Thing.own (fun W=>GtLie b0 t0 W (.agg c0) X) b0 t0 (fun h s k=>GtLie.keep h s k),Thing.box t0 c0 50,Thing.own (fun W=>GtIn b2 t2 W (.agg c2) X) b2 t2 (fun h s k=>GtIn.keep h s k),Thing.box t2 c2 50] wG):=by
  have oo:=O9.out
  have k0:Lies w [Thing.box w.heap.size cs 36,Thing.own (fun W=>GtLie b0 t0 W (.agg c0) X) b0 t0 (fun h s k=>GtLie.keep h s k),Thing.box t0 c0 50,Thing.own (fun W=>GtIn b2 t2 W (.agg c2) X) b2 t2 (fun h s k=>GtIn.keep h s k),Thing.box t2 c2 50] wF:=⟨⟨Z7.out.1.1,Z7.out.1.2.1,Z7.out.1.2.2.1,Z7.out.1.2.2.2.2.2.1,Z7.out.1.2.2.2.2.2.2.1,trivial⟩,Z7.out.2⟩
  exact k0.span q ⟨(show w.heap.size+1≤bx∨tx≤w.heap.size by omega),(show t0≤bx∨tx≤b0 by omega),(show t0+1≤bx∨tx≤t0 by omega),(show t2≤bx∨tx≤b2 by omega),(show t2+1≤bx∨tx≤t2 by omega),trivial⟩ (by omega)
 clear q Z7
 go_upto_region 14 with fail
 go_wp2_with (first|(refine wpList_load_rowG (by simp [Region.wanted,yielded,Act.put]<;>omega) 50 (.tmp 9) rfl t2 rfl _ _ _ _ (show Boxed _ _ _ _ from Z8.out.1.2.2.2.2.1) Tryz.underlying50 rfl (by rw [Hc2.out.1];kernel_rfl) ?_)|(refine wpList_load_rowG (by simp [Region.wanted,yielded,Act.put]<;>omega) 50 (.tmp 6) rfl t0 rfl _ _ _ _ (show Boxed _ _ _ _ from Z8.out.1.2.2.1) Tryz.underlying50 rfl (by rw [Hc0.out.1];kernel_rfl) ?_))
 refine (EX'.out _ _ _ (GtIn.at (show GtIn _ _ _ _ _ from Z8.out.1.2.2.2.1.1)) (GtLie.at (show GtLie _ _ _ _ _ from Z8.out.1.2.1.1))).mono ?_
 rintro e wE8 ⟨rfl,q⟩
 have Z9:Hid (Lies w [Thing.box w.heap.size cs 36,Thing.own (fun W=>GtLie b0 t0 W (.agg c0) X) b0 t0 (fun h s k=>GtLie.keep h s k),Thing.box t0 c0 50,Thing.own (fun W=>GtIn b2 t2 W (.agg c2) X) b2 t2 (fun h s k=>GtIn.keep h s k),Thing.box t2 c2 50] wE8):=Z8.out.below q
 clear q Z8
 go_upto_region 17 with fail
 go_wp2_with (refine wpList_load_row rfl 50 (.tmp 9) rfl t2 rfl _ _ _ _ (show Boxed _ _ _ _ from Z9.out.1.2.2.2.2.1) Tryz.underlying50 rfl (by rw [Hc2.out.1];kernel_rfl) ?_)
 refine (MX'.out b2 t2 _ _ (show GtIn _ _ _ _ _ from Z9.out.1.2.2.2.1.1)).mono ?_
 rintro e wJ ⟨rfl,m,q⟩
 have Z10:Hid (Lies w [Thing.box w.heap.size cs 36,Thing.own (fun W=>GtLie b0 t0 W (.agg c0) X) b0 t0 (fun h s k=>GtLie.keep h s k),Thing.box t0 c0 50,Thing.box t2 c2 50,Thing.own (fun W=>GtIn b2 t2 W (.agg c2) Xm) b2 t2 (fun h s k=>GtIn.keep h s k)] wJ):=by
  have oo:=O9.out
  have k0:Lies w [Thing.box w.heap.size cs 36,Thing.own (fun W=>GtLie b0 t0 W (.agg c0) X) b0 t0 (fun h s k=>GtLie.keep h s k),Thing.box t0 c0 50,Thing.box t2 c2 50] wE8:=⟨⟨Z9.out.1.1,Z9.out.1.2.1,Z9.out.1.2.2.1,Z9.out.1.2.2.2.2.1,trivial⟩,Z9.out.2⟩
  have k1:=k0.span q ⟨(show w.heap.size+1≤b2∨t2≤w.heap.size by omega),(show t0≤b2∨t2≤b0 by omega),(show t0+1≤b2∨t2≤t0 by omega),(show t2+1≤b2∨t2≤t2 by omega),trivial⟩ (by omega)
  exact ⟨k1.1.app (us:=[Thing.own (fun W=>GtIn b2 t2 W (.agg c2) Xm) b2 t2 (fun h s k=>GtIn.keep h s k)]) ⟨⟨m,Nat.le_trans (show t2≤wE8.heap.size from Z9.out.1.2.2.2.1.2) q.size⟩,trivial⟩,k1.2⟩
 clear q m Z9
 go_upto_region 19 with fail
 go_wp2_with (refine wpList_load_row rfl 50 (.tmp 9) rfl t2 rfl _ _ _ _ (show Boxed _ _ _ _ from Z10.out.1.2.2.2.1) Tryz.underlying50 rfl (by rw [Hc2.out.1];kernel_rfl) ?_)
 refine (HX'.out _ _ (GtIn.at (show GtIn _ _ _ _ _ from Z10.out.1.2.2.2.2.1.1))).mono ?_
 rintro e wK ⟨rfl,q⟩
 have Z11:Hid (Lies w [Thing.box w.heap.size cs 36,Thing.own (fun W=>GtLie b0 t0 W (.agg c0) X) b0 t0 (fun h s k=>GtLie.keep h s k),Thing.box t0 c0 50,Thing.box t2 c2 50,Thing.own (fun W=>GtIn b2 t2 W (.agg c2) Xm) b2 t2 (fun h s k=>GtIn.keep h s k)] wK):=Z10.out.below q
 clear q Z10
 go_upto_region 24 with fail
 go_wp2_with (refine wpList_load_row rfl 36 (.tmp 2) rfl w.heap.size rfl _ _ _ _ (show Boxed _ _ _ _ from Z11.out.1.1) Tryz.underlying36 rfl (by rw [Hcs.out.1];kernel_rfl) ?_)
 refine (TT'.out _ (K.out _ Z11.out.2)).mono ?_
 rintro e wAZ12 ⟨⟨cA,rfl,-,iA⟩,q⟩
 have Z12:Hid (Lies w [Thing.box w.heap.size cs 36,Thing.own (fun W=>GtLie b0 t0 W (.agg c0) X) b0 t0 (fun h s k=>GtLie.keep h s k),Thing.box t0 c0 50,Thing.box t2 c2 50,Thing.own (fun W=>GtIn b2 t2 W (.agg c2) Xm) b2 t2 (fun h s k=>GtIn.keep h s k)] wAZ12):=Z11.out.below q
 have AT:Hid (GtAt wAZ12 (.agg cA) g):=iA.at
 clear q iA Z11
 go_wp2_with fail
 refine (D'.out _ _ AT).mono ?_
 rintro e wY ⟨⟨c3,rfl,hc,iY⟩,q⟩
 have Hc3:Hid (c3.size=14∧c3.all (·.oneCell')=true):=hc
 clear hc AT
 have N:Hid (Boxed (wY.alloc (.cells #[.int .i64 0,.int .i64 0,.int .i64 0,.slice none 0 0,.slice none 0 0,.slice none 0 0,.slice none 0 0,.int .i64 0,.slice none 0 0,.slice none 0 0,.int .i64 0,.slice none 0 0,.int .i64 0,.int .i64 0] 50)) wY.heap.size #[.int .i64 0,.int .i64 0,.int .i64 0,.slice none 0 0,.slice none 0 0,.slice none 0 0,.slice none 0 0,.int .i64 0,.slice none 0 0,.slice none 0 0,.int .i64 0,.slice none 0 0,.int .i64 0,.int .i64 0] 50):=Boxed.new _ _ _
 go_upto_region 25 with (refine wpList_store_row rfl 50 (.tmp 14) (.tmp 82) rfl wY.heap.size c3 rfl rfl _ _ N.out (by rw [Hc3.out.1];kernel_rfl) (by rw [Hc3.out.1];rfl) Hc3.out.2 ?_)
 try simp only [Act.put]
 have bN:Below wY.heap.size wY ((wY.alloc (.cells #[.int .i64 0,.int .i64 0,.int .i64 0,.slice none 0 0,.slice none 0 0,.slice none 0 0,.slice none 0 0,.int .i64 0,.slice none 0 0,.slice none 0 0,.int .i64 0,.slice none 0 0,.int .i64 0,.int .i64 0] 50)).setRow wY.heap.size c3):=below_setRow ((Below.refl _ _).alloc nlr _) nlr _
 have Z13:Hid (Lies w [Thing.box w.heap.size cs 36,Thing.own (fun W=>GtLie b0 t0 W (.agg c0) X) b0 t0 (fun h s k=>GtLie.keep h s k),Thing.box t0 c0 50,Thing.box t2 c2 50,Thing.own (fun W=>GtIn b2 t2 W (.agg c2) Xm) b2 t2 (fun h s k=>GtIn.keep h s k),Thing.own (fun W=>GtIn wAZ12.heap.size wY.heap.size W (.agg c3) X) wAZ12.heap.size wY.heap.size (fun h s k=>GtIn.keep h s k),Thing.box wY.heap.size c3 50] ((wY.alloc (.cells #[.int .i64 0,.int .i64 0,.int .i64 0,.slice none 0 0,.slice none 0 0,.slice none 0 0,.slice none 0 0,.int .i64 0,.slice none 0 0,.slice none 0 0,.int .i64 0,.slice none 0 0,.int .i64 0,.int .i64 0] 50)).setRow wY.heap.size c3)∧wAZ12.heap.size≤wY.heap.size∧wY.heap.size+1≤((wY.alloc (.cells #[.int .i64 0,.int .i64 0,.int .i64 0,.slice none 0 0,.slice none 0 0,.slice none 0 0,.slice none 0 0,.int .i64 0,.slice none 0 0,.slice none 0 0,.int .i64 0,.slice none 0 0,.int .i64 0,.int .i64 0] 50)).setRow wY.heap.size c3).heap.size∧w.heap.size+1≤wAZ12.heap.size):=⟨(Z12.out.below q).more bN ⟨⟨GtIn.below iY bN,bN.size⟩,setRow_heap _ _ _ _ _ _ N.out,trivial⟩,q.size,by rw [size_setRow];simp,Boxed.under (show Boxed _ w.heap.size _ _ from Z12.out.1.1)⟩
 clear bN q iY N Z12
 generalize ((wY.alloc (.cells #[.int .i64 0,.int .i64 0,.int .i64 0,.slice none 0 0,.slice none 0 0,.slice none 0 0,.slice none 0 0,.int .i64 0,.slice none 0 0,.slice none 0 0,.int .i64 0,.slice none 0 0,.int .i64 0,.int .i64 0] 50)).setRow wY.heap.size c3)=w3 at Z13 ⊢
 generalize wY.heap.size=t3 at Z13 ⊢
 generalize wAZ12.heap.size=b3 at Z13
 have Z13A:Hid (Lies w [Thing.box w.heap.size cs 36,Thing.own (fun W=>GtLie b0 t0 W (.agg c0) X) b0 t0 (fun h s k=>GtLie.keep h s k),Thing.box t0 c0 50,Thing.box t2 c2 50,Thing.own (fun W=>GtIn b2 t2 W (.agg c2) Xm) b2 t2 (fun h s k=>GtIn.keep h s k),Thing.own (fun W=>GtIn b3 t3 W (.agg c3) X) b3 t3 (fun h s k=>GtIn.keep h s k),Thing.box t3 c3 50] w3):=Z13.out.1
 have O3:Hid (b3≤t3∧t3+1≤w3.heap.size∧w.heap.size+1≤b3):=Z13.out.2
 clear Z13
 clear O3
 go_wp2_with (first|(refine wpList_load_row rfl 50 (.tmp 14) rfl t3 rfl _ _ _ _ (show Boxed _ _ _ _ from Z13A.out.1.2.2.2.2.2.2.1) Tryz.underlying50 rfl (by rw [Hc3.out.1];kernel_rfl) ?_)|(refine wpList_load_row rfl 50 (.tmp 6) rfl t0 rfl _ _ _ _ (show Boxed _ _ _ _ from Z13A.out.1.2.2.1) Tryz.underlying50 rfl (by rw [Hc0.out.1];kernel_rfl) ?_))
 refine (EX'.out _ _ _ (GtIn.at (show GtIn _ _ _ _ _ from Z13A.out.1.2.2.2.2.2.1.1)) (GtLie.at (show GtLie _ _ _ _ _ from Z13A.out.1.2.1.1))).mono ?_
 rintro e wE13 ⟨rfl,q⟩
 have Z14:Hid (Lies w [Thing.box w.heap.size cs 36,Thing.own (fun W=>GtLie b0 t0 W (.agg c0) X) b0 t0 (fun h s k=>GtLie.keep h s k),Thing.box t0 c0 50,Thing.box t2 c2 50,Thing.own (fun W=>GtIn b2 t2 W (.agg c2) Xm) b2 t2 (fun h s k=>GtIn.keep h s k),Thing.own (fun W=>GtIn b3 t3 W (.agg c3) X) b3 t3 (fun h s k=>GtIn.keep h s k),Thing.box t3 c3 50] wE13):=Z13A.out.below q
 clear q Z13A
 go_upto_region 28 with fail
 go_wp2_with (refine wpList_load_row rfl 50 (.tmp 9) rfl t2 rfl _ _ _ _ (show Boxed _ _ _ _ from Z14.out.1.2.2.2.1) Tryz.underlying50 rfl (by rw [Hc2.out.1];kernel_rfl) ?_)
 refine (HX'.out _ _ (GtIn.at (show GtIn _ _ _ _ _ from Z14.out.1.2.2.2.2.1.1))).mono ?_
 rintro e wQ ⟨rfl,q⟩
 have Z15:Hid (Lies w [Thing.box w.heap.size cs 36,Thing.own (fun W=>GtLie b0 t0 W (.agg c0) X) b0 t0 (fun h s k=>GtLie.keep h s k),Thing.box t0 c0 50,Thing.box t2 c2 50,Thing.own (fun W=>GtIn b2 t2 W (.agg c2) Xm) b2 t2 (fun h s k=>GtIn.keep h s k),Thing.own (fun W=>GtIn b3 t3 W (.agg c3) X) b3 t3 (fun h s k=>GtIn.keep h s k),Thing.box t3 c3 50] wQ):=Z14.out.below q
 clear q Z14
 go_wp2
 go_ret
 exact ⟨rfl,Z15.out.2⟩
theorem fnExactMoved_walk (g:Gt) (x:Ga) (n:Int) (w:World) (hl:GtLen g) (h:Hid (GtV w x g)) :
 Calls Tryz.prog 3 #[g.val x,.int .i64 n] w fun e w'=>e = .returned (.bool true)∧Bel w w' :=
 fnExactMoved_of implMoved g x n w hl h
end Go.Proofs.YtmfabeghfdoibaaGreat
