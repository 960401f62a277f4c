import Derived.Test.YtmfabeghfdoibaaGreatQT31GtZc
import Derived.Test.YtmfabeghfdoibaaGreatQT43GtMk
set_option maxHeartbeats 6400000
set_option maxRecDepth 100000
namespace Go.Proofs.YtmfabeghfdoibaaGreat
open Go.RowKit
theorem eqLn (r:Ln) (w:World) :
 Calls Tryz.prog 43 #[r.val,r.val] w fun e w'=>e = .returned (.bool true)∧Bel w w':=by
 unfold Ln.val
 obtain ⟨v0,v1,v2⟩:=r
 simp only []
 have H:Hid (Bel w ((w.alloc (.cells #[.int .i64 v0,.int .i64 v1,.int .i64 v2] 38)).alloc (.cells #[.int .i64 v0,.int .i64 v1,.int .i64 v2] 38))):=((Below.refl _ w).alloc nlr _).alloc (by simp) _
 go_enter Tryz.func43,Tryz.ntmps43
 go_wp2
 go_ret
 exact ⟨rfl,H.out⟩
theorem eqGts (v1 v2:Value) (g:Gt) (w:World) (hB:g.big≤1048576) (h1:Hid (GtAt w v1 g)) (h2:Hid (GtAt w v2 g)) :
 Calls Tryz.prog 10 #[v1,v2] w fun e w'=>e = .returned (.bool true)∧Below w.heap.size w w':=by
 obtain ⟨⟨p1,q1,p2,q2,p3,q3,p4,q4,p5,q5,p6,q6,p7,q7⟩,rfl,k1⟩:=h1.out
 obtain ⟨⟨u1,y1,u2,y2,u3,y3,u4,y4,u5,y5,u6,y6,u7,y7⟩,rfl,k2⟩:=h2.out
 obtain ⟨⟨kd,ex,le⟩,rts,rus,tr,lv,⟨mo,li⟩,st,⟨nw,fl⟩,nx,dr⟩:=g
 obtain ⟨n1,hn1⟩:∃ n,rts.length=n:=⟨_,rfl⟩
 obtain ⟨n2,hn2⟩:∃ n,rus.length=n:=⟨_,rfl⟩
 obtain ⟨n3,hn3⟩:∃ n,tr.length=n:=⟨_,rfl⟩
 obtain ⟨n4,hn4⟩:∃ n,lv.length=n:=⟨_,rfl⟩
 obtain ⟨n5,hn5⟩:∃ n,li.length=n:=⟨_,rfl⟩
 obtain ⟨n6,hn6⟩:∃ n,st.length=n:=⟨_,rfl⟩
 obtain ⟨n7,hn7⟩:∃ n,fl.length=n:=⟨_,rfl⟩
 have LN:=fun w=>eqLn ⟨kd,ex,le⟩ w
 simp only [Gt.val,Gt.cells,Ln.val] at LN ⊢
 have Hv1:Hid _:=k1
 have Hv2:Hid _:=k2
 have E1:Hid (∀ W,GtV W ⟨p1,q1,p2,q2,p3,q3,p4,q4,p5,q5,p6,q6,p7,q7⟩ ⟨⟨kd,ex,le⟩,rts,rus,tr,lv,⟨mo,li⟩,st,⟨nw,fl⟩,nx,dr⟩→GtV W ⟨u1,y1,u2,y2,u3,y3,u4,y4,u5,y5,u6,y6,u7,y7⟩ ⟨⟨kd,ex,le⟩,rts,rus,tr,lv,⟨mo,li⟩,st,⟨nw,fl⟩,nx,dr⟩→Calls Tryz.prog 44 #[.slice p1 n1 q1,.slice u1 n1 y1] W fun e w'=>e = .returned (.bool true)∧Below W.heap.size W w'):=fun W h1 h2=>by
  rw [← hn1]
  exact eqRtW _ _ rts W (by have:=hB;simp only [Gt.big] at this;omega) h1.routes h2.routes
 have E2:Hid (∀ W,GtV W ⟨p1,q1,p2,q2,p3,q3,p4,q4,p5,q5,p6,q6,p7,q7⟩ ⟨⟨kd,ex,le⟩,rts,rus,tr,lv,⟨mo,li⟩,st,⟨nw,fl⟩,nx,dr⟩→GtV W ⟨u1,y1,u2,y2,u3,y3,u4,y4,u5,y5,u6,y6,u7,y7⟩ ⟨⟨kd,ex,le⟩,rts,rus,tr,lv,⟨mo,li⟩,st,⟨nw,fl⟩,nx,dr⟩→Calls Tryz.prog 45 #[.slice p2 n2 q2,.slice u2 n2 y2] W fun e w'=>e = .returned (.bool true)∧Below W.heap.size W w'):=fun W h1 h2=>by
  rw [← hn2]
  exact eqRuW _ _ rus W (by have:=hB;simp only [Gt.big] at this;omega) h1.rules h2.rules
 have E3:Hid (∀ W,GtV W ⟨p1,q1,p2,q2,p3,q3,p4,q4,p5,q5,p6,q6,p7,q7⟩ ⟨⟨kd,ex,le⟩,rts,rus,tr,lv,⟨mo,li⟩,st,⟨nw,fl⟩,nx,dr⟩→GtV W ⟨u1,y1,u2,y2,u3,y3,u4,y4,u5,y5,u6,y6,u7,y7⟩ ⟨⟨kd,ex,le⟩,rts,rus,tr,lv,⟨mo,li⟩,st,⟨nw,fl⟩,nx,dr⟩→Calls Tryz.prog 46 #[.slice p3 n3 q3,.slice u3 n3 y3] W fun e w'=>e = .returned (.bool true)∧Below W.heap.size W w'):=fun W h1 h2=>by
  rw [← hn3]
  exact eqNdW _ _ tr W (by have:=hB;simp only [Gt.big] at this;omega) h1.tree h2.tree
 have E4:Hid (∀ W,GtV W ⟨p1,q1,p2,q2,p3,q3,p4,q4,p5,q5,p6,q6,p7,q7⟩ ⟨⟨kd,ex,le⟩,rts,rus,tr,lv,⟨mo,li⟩,st,⟨nw,fl⟩,nx,dr⟩→GtV W ⟨u1,y1,u2,y2,u3,y3,u4,y4,u5,y5,u6,y6,u7,y7⟩ ⟨⟨kd,ex,le⟩,rts,rus,tr,lv,⟨mo,li⟩,st,⟨nw,fl⟩,nx,dr⟩→Calls Tryz.prog 15 #[.slice p4 n4 q4,.slice u4 n4 y4] W fun e w'=>e = .returned (.bool true)∧Below W.heap.size W w'):=fun W h1 h2=>by
  rw [← hn4]
  exact eqIntW _ _ lv W (by have:=hB;simp only [Gt.big] at this;omega) h1.leaves h2.leaves
 have E5:Hid (∀ W,GtV W ⟨p1,q1,p2,q2,p3,q3,p4,q4,p5,q5,p6,q6,p7,q7⟩ ⟨⟨kd,ex,le⟩,rts,rus,tr,lv,⟨mo,li⟩,st,⟨nw,fl⟩,nx,dr⟩→GtV W ⟨u1,y1,u2,y2,u3,y3,u4,y4,u5,y5,u6,y6,u7,y7⟩ ⟨⟨kd,ex,le⟩,rts,rus,tr,lv,⟨mo,li⟩,st,⟨nw,fl⟩,nx,dr⟩→Calls Tryz.prog 47 #[.agg #[.int .i64 mo,.slice p5 n5 q5],.agg #[.int .i64 mo,.slice u5 n5 y5]] W fun e w'=>e = .returned (.bool true)∧Below W.heap.size W w'):=fun W h1 h2=>by
  rw [← hn5]
  exact eqRws _ _ ⟨mo,li⟩ W (by have:=hB;simp only [Gt.big] at this;omega) h1.rows h2.rows
 have E6:Hid (∀ W,GtV W ⟨p1,q1,p2,q2,p3,q3,p4,q4,p5,q5,p6,q6,p7,q7⟩ ⟨⟨kd,ex,le⟩,rts,rus,tr,lv,⟨mo,li⟩,st,⟨nw,fl⟩,nx,dr⟩→GtV W ⟨u1,y1,u2,y2,u3,y3,u4,y4,u5,y5,u6,y6,u7,y7⟩ ⟨⟨kd,ex,le⟩,rts,rus,tr,lv,⟨mo,li⟩,st,⟨nw,fl⟩,nx,dr⟩→Calls Tryz.prog 48 #[.slice p6 n6 q6,.slice u6 n6 y6] W fun e w'=>e = .returned (.bool true)∧Below W.heap.size W w'):=fun W h1 h2=>by
  rw [← hn6]
  exact eqSrW _ _ st W (by have:=hB;simp only [Gt.big] at this;omega) h1.steers h2.steers
 have E7:Hid (∀ W,GtV W ⟨p1,q1,p2,q2,p3,q3,p4,q4,p5,q5,p6,q6,p7,q7⟩ ⟨⟨kd,ex,le⟩,rts,rus,tr,lv,⟨mo,li⟩,st,⟨nw,fl⟩,nx,dr⟩→GtV W ⟨u1,y1,u2,y2,u3,y3,u4,y4,u5,y5,u6,y6,u7,y7⟩ ⟨⟨kd,ex,le⟩,rts,rus,tr,lv,⟨mo,li⟩,st,⟨nw,fl⟩,nx,dr⟩→Calls Tryz.prog 49 #[.agg #[.int .i64 nw,.slice p7 n7 q7],.agg #[.int .i64 nw,.slice u7 n7 y7]] W fun e w'=>e = .returned (.bool true)∧Below W.heap.size W w'):=fun W h1 h2=>by
  rw [← hn7]
  exact eqFss _ _ ⟨nw,fl⟩ W (by have:=hB;simp only [Gt.big] at this;omega) h1.fair h2.fair
 rw [hn1,hn2,hn3,hn4,hn5,hn6,hn7]
 have LN':Hid _:=LN
 clear LN h1 h2 k1 k2 hB
 obtain ⟨W0,hW⟩:∃ W,W=(w.alloc (.cells (gc kd ex le (.slice p1 n1 q1) (.slice p2 n2 q2) (.slice p3 n3 q3) (.slice p4 n4 q4) mo (.slice p5 n5 q5) (.slice p6 n6 q6) nw (.slice p7 n7 q7) nx dr) 50)).alloc (.cells (gc kd ex le (.slice u1 n1 y1) (.slice u2 n2 y2) (.slice u3 n3 y3) (.slice u4 n4 y4) mo (.slice u5 n5 y5) (.slice u6 n6 y6) nw (.slice u7 n7 y7) nx dr) 50):=⟨_,rfl⟩
 obtain ⟨A,hA⟩:∃ A,A=w.heap.size:=⟨_,rfl⟩
 obtain ⟨B,hBq⟩:∃ B,B=w.heap.size+1:=⟨_,rfl⟩
 have Z0:Hid (Boxed W0 A (gc kd ex le (.slice p1 n1 q1) (.slice p2 n2 q2) (.slice p3 n3 q3) (.slice p4 n4 q4) mo (.slice p5 n5 q5) (.slice p6 n6 q6) nw (.slice p7 n7 q7) nx dr) 50∧Boxed W0 B (gc kd ex le (.slice u1 n1 y1) (.slice u2 n2 y2) (.slice u3 n3 y3) (.slice u4 n4 y4) mo (.slice u5 n5 y5) (.slice u6 n6 y6) nw (.slice u7 n7 y7) nx dr) 50∧GtV W0 ⟨p1,q1,p2,q2,p3,q3,p4,q4,p5,q5,p6,q6,p7,q7⟩ ⟨⟨kd,ex,le⟩,rts,rus,tr,lv,⟨mo,li⟩,st,⟨nw,fl⟩,nx,dr⟩∧GtV W0 ⟨u1,y1,u2,y2,u3,y3,u4,y4,u5,y5,u6,y6,u7,y7⟩ ⟨⟨kd,ex,le⟩,rts,rus,tr,lv,⟨mo,li⟩,st,⟨nw,fl⟩,nx,dr⟩∧Below w.heap.size w W0):=by
  have bw:Below w.heap.size w W0:=by rw [hW];exact ((Below.refl _ _).alloc nlr _).alloc (by simp) _
  refine ⟨?_,?_,Hv1.out.below bw,Hv2.out.below bw,bw⟩
  ·rw [hW,hA];exact (Boxed.new _ _ _).more _
  ·rw [hW,hBq]
   have:=Boxed.new (w.alloc (.cells (gc kd ex le (.slice p1 n1 q1) (.slice p2 n2 q2) (.slice p3 n3 q3) (.slice p4 n4 q4) mo (.slice p5 n5 q5) (.slice p6 n6 q6) nw (.slice p7 n7 q7) nx dr) 50)) (gc kd ex le (.slice u1 n1 y1) (.slice u2 n2 y2) (.slice u3 n3 y3) (.slice u4 n4 y4) mo (.slice u5 n5 y5) (.slice u6 n6 y6) nw (.slice u7 n7 y7) nx dr) 50
   simpa using this
 have HW:Hid (W0=_):=hW
 have HA:Hid (A=_):=hA
 have HBq:Hid (B=_):=hBq
 clear hW hA hBq Hv1 Hv2 hn1 hn2 hn3 hn4 hn5 hn6 hn7
 go_enter Tryz.func10,Tryz.ntmps10
 go_upto_region 1 with fail
 rw [← HW.out,← HBq.out,← HA.out]
 clear HW HA HBq
 have c0:W0.cell? ⟨A,0,none⟩=some (.int .i64 kd):=Z0.out.1.cell 0 rfl
 have d0:W0.cell? ⟨B,0,none⟩=some (.int .i64 kd):=Z0.out.2.1.cell 0 rfl
 have c1:W0.cell? ⟨A,1,none⟩=some (.int .i64 ex):=Z0.out.1.cell 1 rfl
 have d1:W0.cell? ⟨B,1,none⟩=some (.int .i64 ex):=Z0.out.2.1.cell 1 rfl
 have c2:W0.cell? ⟨A,2,none⟩=some (.int .i64 le):=Z0.out.1.cell 2 rfl
 have d2:W0.cell? ⟨B,2,none⟩=some (.int .i64 le):=Z0.out.2.1.cell 2 rfl
 go_wp2_with fail
 refine (LN'.out _).mono ?_
 rintro e W1 ⟨rfl,q⟩
 have Z1:Hid (Boxed W1 A (gc kd ex le (.slice p1 n1 q1) (.slice p2 n2 q2) (.slice p3 n3 q3) (.slice p4 n4 q4) mo (.slice p5 n5 q5) (.slice p6 n6 q6) nw (.slice p7 n7 q7) nx dr) 50∧Boxed W1 B (gc kd ex le (.slice u1 n1 y1) (.slice u2 n2 y2) (.slice u3 n3 y3) (.slice u4 n4 y4) mo (.slice u5 n5 y5) (.slice u6 n6 y6) nw (.slice u7 n7 y7) nx dr) 50∧GtV W1 ⟨p1,q1,p2,q2,p3,q3,p4,q4,p5,q5,p6,q6,p7,q7⟩ ⟨⟨kd,ex,le⟩,rts,rus,tr,lv,⟨mo,li⟩,st,⟨nw,fl⟩,nx,dr⟩∧GtV W1 ⟨u1,y1,u2,y2,u3,y3,u4,y4,u5,y5,u6,y6,u7,y7⟩ ⟨⟨kd,ex,le⟩,rts,rus,tr,lv,⟨mo,li⟩,st,⟨nw,fl⟩,nx,dr⟩∧Below w.heap.size w W1):=⟨Z0.out.1.below Z0.out.1.under q,Z0.out.2.1.below Z0.out.2.1.under q,Z0.out.2.2.1.below q,Z0.out.2.2.2.1.below q,Z0.out.2.2.2.2.trans (q.mono Z0.out.2.2.2.2.size)⟩
 clear q c0 d0 c1 d1 c2 d2 Z0
 have c3:W1.cell? ⟨A,3,none⟩=some (.slice p1 n1 q1):=Z1.out.1.cell 3 rfl
 have d3:W1.cell? ⟨B,3,none⟩=some (.slice u1 n1 y1):=Z1.out.2.1.cell 3 rfl
 go_wp2_with fail
 refine (E1.out _ Z1.out.2.2.1 Z1.out.2.2.2.1).mono ?_
 rintro e W2 ⟨rfl,q⟩
 have Z2:Hid (Boxed W2 A (gc kd ex le (.slice p1 n1 q1) (.slice p2 n2 q2) (.slice p3 n3 q3) (.slice p4 n4 q4) mo (.slice p5 n5 q5) (.slice p6 n6 q6) nw (.slice p7 n7 q7) nx dr) 50∧Boxed W2 B (gc kd ex le (.slice u1 n1 y1) (.slice u2 n2 y2) (.slice u3 n3 y3) (.slice u4 n4 y4) mo (.slice u5 n5 y5) (.slice u6 n6 y6) nw (.slice u7 n7 y7) nx dr) 50∧GtV W2 ⟨p1,q1,p2,q2,p3,q3,p4,q4,p5,q5,p6,q6,p7,q7⟩ ⟨⟨kd,ex,le⟩,rts,rus,tr,lv,⟨mo,li⟩,st,⟨nw,fl⟩,nx,dr⟩∧GtV W2 ⟨u1,y1,u2,y2,u3,y3,u4,y4,u5,y5,u6,y6,u7,y7⟩ ⟨⟨kd,ex,le⟩,rts,rus,tr,lv,⟨mo,li⟩,st,⟨nw,fl⟩,nx,dr⟩∧Below w.heap.size w W2):=⟨Z1.out.1.below Z1.out.1.under q,Z1.out.2.1.below Z1.out.2.1.under q,Z1.out.2.2.1.below q,Z1.out.2.2.2.1.below q,Z1.out.2.2.2.2.trans (q.mono Z1.out.2.2.2.2.size)⟩
 clear q c3 d3 Z1
 have c4:W2.cell? ⟨A,4,none⟩=some (.slice p2 n2 q2):=Z2.out.1.cell 4 rfl
 have d4:W2.cell? ⟨B,4,none⟩=some (.slice u2 n2 y2):=Z2.out.2.1.cell 4 rfl
 go_wp2_with fail
 refine (E2.out _ Z2.out.2.2.1 Z2.out.2.2.2.1).mono ?_
 rintro e W3 ⟨rfl,q⟩
 have Z3:Hid (Boxed W3 A (gc kd ex le (.slice p1 n1 q1) (.slice p2 n2 q2) (.slice p3 n3 q3) (.slice p4 n4 q4) mo (.slice p5 n5 q5) (.slice p6 n6 q6) nw (.slice p7 n7 q7) nx dr) 50∧Boxed W3 B (gc kd ex le (.slice u1 n1 y1) (.slice u2 n2 y2) (.slice u3 n3 y3) (.slice u4 n4 y4) mo (.slice u5 n5 y5) (.slice u6 n6 y6) nw (.slice u7 n7 y7) nx dr) 50∧GtV W3 ⟨p1,q1,p2,q2,p3,q3,p4,q4,p5,q5,p6,q6,p7,q7⟩ ⟨⟨kd,ex,le⟩,rts,rus,tr,lv,⟨mo,li⟩,st,⟨nw,fl⟩,nx,dr⟩∧GtV W3 ⟨u1,y1,u2,y2,u3,y3,u4,y4,u5,y5,u6,y6,u7,y7⟩ ⟨⟨kd,ex,le⟩,rts,rus,tr,lv,⟨mo,li⟩,st,⟨nw,fl⟩,nx,dr⟩∧Below w.heap.size w W3):=⟨Z2.out.1.below Z2.out.1.under q,Z2.out.2.1.below Z2.out.2.1.under q,Z2.out.2.2.1.below q,Z2.out.2.2.2.1.below q,Z2.out.2.2.2.2.trans (q.mono Z2.out.2.2.2.2.size)⟩
 clear q c4 d4 Z2
 have c5:W3.cell? ⟨A,5,none⟩=some (.slice p3 n3 q3):=Z3.out.1.cell 5 rfl
 have d5:W3.cell? ⟨B,5,none⟩=some (.slice u3 n3 y3):=Z3.out.2.1.cell 5 rfl
 go_wp2_with fail
 refine (E3.out _ Z3.out.2.2.1 Z3.out.2.2.2.1).mono ?_
 rintro e W4 ⟨rfl,q⟩
 have Z4:Hid (Boxed W4 A (gc kd ex le (.slice p1 n1 q1) (.slice p2 n2 q2) (.slice p3 n3 q3) (.slice p4 n4 q4) mo (.slice p5 n5 q5) (.slice p6 n6 q6) nw (.slice p7 n7 q7) nx dr) 50∧Boxed W4 B (gc kd ex le (.slice u1 n1 y1) (.slice u2 n2 y2) (.slice u3 n3 y3) (.slice u4 n4 y4) mo (.slice u5 n5 y5) (.slice u6 n6 y6) nw (.slice u7 n7 y7) nx dr) 50∧GtV W4 ⟨p1,q1,p2,q2,p3,q3,p4,q4,p5,q5,p6,q6,p7,q7⟩ ⟨⟨kd,ex,le⟩,rts,rus,tr,lv,⟨mo,li⟩,st,⟨nw,fl⟩,nx,dr⟩∧GtV W4 ⟨u1,y1,u2,y2,u3,y3,u4,y4,u5,y5,u6,y6,u7,y7⟩ ⟨⟨kd,ex,le⟩,rts,rus,tr,lv,⟨mo,li⟩,st,⟨nw,fl⟩,nx,dr⟩∧Below w.heap.size w W4):=⟨Z3.out.1.below Z3.out.1.under q,Z3.out.2.1.below Z3.out.2.1.under q,Z3.out.2.2.1.below q,Z3.out.2.2.2.1.below q,Z3.out.2.2.2.2.trans (q.mono Z3.out.2.2.2.2.size)⟩
 clear q c5 d5 Z3
 have c6:W4.cell? ⟨A,6,none⟩=some (.slice p4 n4 q4):=Z4.out.1.cell 6 rfl
 have d6:W4.cell? ⟨B,6,none⟩=some (.slice u4 n4 y4):=Z4.out.2.1.cell 6 rfl
 go_wp2_with fail
 refine (E4.out _ Z4.out.2.2.1 Z4.out.2.2.2.1).mono ?_
 rintro e W5 ⟨rfl,q⟩
 have Z5:Hid (Boxed W5 A (gc kd ex le (.slice p1 n1 q1) (.slice p2 n2 q2) (.slice p3 n3 q3) (.slice p4 n4 q4) mo (.slice p5 n5 q5) (.slice p6 n6 q6) nw (.slice p7 n7 q7) nx dr) 50∧Boxed W5 B (gc kd ex le (.slice u1 n1 y1) (.slice u2 n2 y2) (.slice u3 n3 y3) (.slice u4 n4 y4) mo (.slice u5 n5 y5) (.slice u6 n6 y6) nw (.slice u7 n7 y7) nx dr) 50∧GtV W5 ⟨p1,q1,p2,q2,p3,q3,p4,q4,p5,q5,p6,q6,p7,q7⟩ ⟨⟨kd,ex,le⟩,rts,rus,tr,lv,⟨mo,li⟩,st,⟨nw,fl⟩,nx,dr⟩∧GtV W5 ⟨u1,y1,u2,y2,u3,y3,u4,y4,u5,y5,u6,y6,u7,y7⟩ ⟨⟨kd,ex,le⟩,rts,rus,tr,lv,⟨mo,li⟩,st,⟨nw,fl⟩,nx,dr⟩∧Below w.heap.size w W5):=⟨Z4.out.1.below Z4.out.1.under q,Z4.out.2.1.below Z4.out.2.1.under q,Z4.out.2.2.1.below q,Z4.out.2.2.2.1.below q,Z4.out.2.2.2.2.trans (q.mono Z4.out.2.2.2.2.size)⟩
 clear q c6 d6 Z4
 have c7:W5.cell? ⟨A,7,none⟩=some (.int .i64 mo):=Z5.out.1.cell 7 rfl
 have d7:W5.cell? ⟨B,7,none⟩=some (.int .i64 mo):=Z5.out.2.1.cell 7 rfl
 have c8:W5.cell? ⟨A,8,none⟩=some (.slice p5 n5 q5):=Z5.out.1.cell 8 rfl
 have d8:W5.cell? ⟨B,8,none⟩=some (.slice u5 n5 y5):=Z5.out.2.1.cell 8 rfl
 go_wp2_with fail
 refine (E5.out _ Z5.out.2.2.1 Z5.out.2.2.2.1).mono ?_
 rintro e W6 ⟨rfl,q⟩
 have Z6:Hid (Boxed W6 A (gc kd ex le (.slice p1 n1 q1) (.slice p2 n2 q2) (.slice p3 n3 q3) (.slice p4 n4 q4) mo (.slice p5 n5 q5) (.slice p6 n6 q6) nw (.slice p7 n7 q7) nx dr) 50∧Boxed W6 B (gc kd ex le (.slice u1 n1 y1) (.slice u2 n2 y2) (.slice u3 n3 y3) (.slice u4 n4 y4) mo (.slice u5 n5 y5) (.slice u6 n6 y6) nw (.slice u7 n7 y7) nx dr) 50∧GtV W6 ⟨p1,q1,p2,q2,p3,q3,p4,q4,p5,q5,p6,q6,p7,q7⟩ ⟨⟨kd,ex,le⟩,rts,rus,tr,lv,⟨mo,li⟩,st,⟨nw,fl⟩,nx,dr⟩∧GtV W6 ⟨u1,y1,u2,y2,u3,y3,u4,y4,u5,y5,u6,y6,u7,y7⟩ ⟨⟨kd,ex,le⟩,rts,rus,tr,lv,⟨mo,li⟩,st,⟨nw,fl⟩,nx,dr⟩∧Below w.heap.size w W6):=⟨Z5.out.1.below Z5.out.1.under q,Z5.out.2.1.below Z5.out.2.1.under q,Z5.out.2.2.1.below q,Z5.out.2.2.2.1.below q,Z5.out.2.2.2.2.trans (q.mono Z5.out.2.2.2.2.size)⟩
 clear q c7 d7 c8 d8 Z5
 have c9:W6.cell? ⟨A,9,none⟩=some (.slice p6 n6 q6):=Z6.out.1.cell 9 rfl
 have d9:W6.cell? ⟨B,9,none⟩=some (.slice u6 n6 y6):=Z6.out.2.1.cell 9 rfl
 go_wp2_with fail
 refine (E6.out _ Z6.out.2.2.1 Z6.out.2.2.2.1).mono ?_
 rintro e W7 ⟨rfl,q⟩
 have Z7:Hid (Boxed W7 A (gc kd ex le (.slice p1 n1 q1) (.slice p2 n2 q2) (.slice p3 n3 q3) (.slice p4 n4 q4) mo (.slice p5 n5 q5) (.slice p6 n6 q6) nw (.slice p7 n7 q7) nx dr) 50∧Boxed W7 B (gc kd ex le (.slice u1 n1 y1) (.slice u2 n2 y2) (.slice u3 n3 y3) (.slice u4 n4 y4) mo (.slice u5 n5 y5) (.slice u6 n6 y6) nw (.slice u7 n7 y7) nx dr) 50∧GtV W7 ⟨p1,q1,p2,q2,p3,q3,p4,q4,p5,q5,p6,q6,p7,q7⟩ ⟨⟨kd,ex,le⟩,rts,rus,tr,lv,⟨mo,li⟩,st,⟨nw,fl⟩,nx,dr⟩∧GtV W7 ⟨u1,y1,u2,y2,u3,y3,u4,y4,u5,y5,u6,y6,u7,y7⟩ ⟨⟨kd,ex,le⟩,rts,rus,tr,lv,⟨mo,li⟩,st,⟨nw,fl⟩,nx,dr⟩∧Below w.heap.size w W7):=⟨Z6.out.1.below Z6.out.1.under q,Z6.out.2.1.below Z6.out.2.1.under q,Z6.out.2.2.1.below q,Z6.out.2.2.2.1.below q,Z6.out.2.2.2.2.trans (q.mono Z6.out.2.2.2.2.size)⟩
 clear q c9 d9 Z6
 have c10:W7.cell? ⟨A,10,none⟩=some (.int .i64 nw):=Z7.out.1.cell 10 rfl
 have d10:W7.cell? ⟨B,10,none⟩=some (.int .i64 nw):=Z7.out.2.1.cell 10 rfl
 have c11:W7.cell? ⟨A,11,none⟩=some (.slice p7 n7 q7):=Z7.out.1.cell 11 rfl
 have d11:W7.cell? ⟨B,11,none⟩=some (.slice u7 n7 y7):=Z7.out.2.1.cell 11 rfl
 go_wp2_with fail
 refine (E7.out _ Z7.out.2.2.1 Z7.out.2.2.2.1).mono ?_
 rintro e W8 ⟨rfl,q⟩
 have Z8:Hid (Boxed W8 A (gc kd ex le (.slice p1 n1 q1) (.slice p2 n2 q2) (.slice p3 n3 q3) (.slice p4 n4 q4) mo (.slice p5 n5 q5) (.slice p6 n6 q6) nw (.slice p7 n7 q7) nx dr) 50∧Boxed W8 B (gc kd ex le (.slice u1 n1 y1) (.slice u2 n2 y2) (.slice u3 n3 y3) (.slice u4 n4 y4) mo (.slice u5 n5 y5) (.slice u6 n6 y6) nw (.slice u7 n7 y7) nx dr) 50∧GtV W8 ⟨p1,q1,p2,q2,p3,q3,p4,q4,p5,q5,p6,q6,p7,q7⟩ ⟨⟨kd,ex,le⟩,rts,rus,tr,lv,⟨mo,li⟩,st,⟨nw,fl⟩,nx,dr⟩∧GtV W8 ⟨u1,y1,u2,y2,u3,y3,u4,y4,u5,y5,u6,y6,u7,y7⟩ ⟨⟨kd,ex,le⟩,rts,rus,tr,lv,⟨mo,li⟩,st,⟨nw,fl⟩,nx,dr⟩∧Below w.heap.size w W8):=⟨Z7.out.1.below Z7.out.1.under q,Z7.out.2.1.below Z7.out.2.1.under q,Z7.out.2.2.1.below q,Z7.out.2.2.2.1.below q,Z7.out.2.2.2.2.trans (q.mono Z7.out.2.2.2.2.size)⟩
 clear q c10 d10 c11 d11 Z7
 have c12:W8.cell? ⟨A,12,none⟩=some (.int .i64 nx):=Z8.out.1.cell 12 rfl
 have d12:W8.cell? ⟨B,12,none⟩=some (.int .i64 nx):=Z8.out.2.1.cell 12 rfl
 have c13:W8.cell? ⟨A,13,none⟩=some (.int .i64 dr):=Z8.out.1.cell 13 rfl
 have d13:W8.cell? ⟨B,13,none⟩=some (.int .i64 dr):=Z8.out.2.1.cell 13 rfl
 go_wp2_with fail
 go_ret
 exact ⟨rfl,Z8.out.2.2.2.2⟩
end Go.Proofs.YtmfabeghfdoibaaGreat
