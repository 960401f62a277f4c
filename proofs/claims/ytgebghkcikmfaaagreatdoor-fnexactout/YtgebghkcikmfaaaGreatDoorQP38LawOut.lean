import Derived.Test.YtgebghkcikmfaaaGreatDoorQP16GtTo
import Derived.Test.YtgebghkcikmfaaaGreatDoorQP37GtIoB
set_option maxHeartbeats 12800000
set_option maxRecDepth 100000
namespace Go.Proofs.YtgebghkcikmfaaaGreatDoor
open Go.RowKit
theorem eqLn (r:Ln) (w:World) :
 Calls Tryz.prog 39 #[r.val,r.val] w fun e w'=>e = .returned (.bool true)∧Bel w w':=by
 unfold Ln.val
 obtain ⟨v0,v1,v2⟩:=r
 simp only []
 have H:Hid (Bel w ((w.alloc (.cells #[.int .i64 v0,.int .i64 v1,.int .i64 v2] 38)).alloc (.cells #[.int .i64 v0,.int .i64 v1,.int .i64 v2] 38))):=((Below.refl _ w).alloc nlr _).alloc (by simp) _
 go_enter Tryz.func39,Tryz.ntmps39
 go_wp2
 go_ret
 exact ⟨rfl,H.out⟩
theorem eqGts (v1 v2:Value) (g:Gt) (w:World) (hB:g.big≤1048576) (h1:Hid (GtAt w v1 g)) (h2:Hid (GtAt w v2 g)) :
 Calls Tryz.prog 9 #[v1,v2] w fun e w'=>e = .returned (.bool true)∧Below w.heap.size w w':=by
 obtain ⟨⟨p1,q1,p2,q2,p3,q3,p4,q4,p5,q5,p6,q6,p7,q7⟩,rfl,k1⟩:=h1.out
 obtain ⟨⟨u1,y1,u2,y2,u3,y3,u4,y4,u5,y5,u6,y6,u7,y7⟩,rfl,k2⟩:=h2.out
 obtain ⟨⟨kd,ex,le⟩,rts,rus,tr,lv,⟨mo,li⟩,st,⟨nw,fl⟩,nx,dr⟩:=g
 obtain ⟨n1,hn1⟩:∃ n,rts.length=n:=⟨_,rfl⟩
 obtain ⟨n2,hn2⟩:∃ n,rus.length=n:=⟨_,rfl⟩
 obtain ⟨n3,hn3⟩:∃ n,tr.length=n:=⟨_,rfl⟩
 obtain ⟨n4,hn4⟩:∃ n,lv.length=n:=⟨_,rfl⟩
 obtain ⟨n5,hn5⟩:∃ n,li.length=n:=⟨_,rfl⟩
 obtain ⟨n6,hn6⟩:∃ n,st.length=n:=⟨_,rfl⟩
 obtain ⟨n7,hn7⟩:∃ n,fl.length=n:=⟨_,rfl⟩
 have LN:=fun w=>eqLn ⟨kd,ex,le⟩ w
 simp only [Gt.val,Gt.cells,Ln.val] at LN ⊢
 have Hv1:Hid _:=k1
 have Hv2:Hid _:=k2
 have E1:Hid (∀ W,GtV W ⟨p1,q1,p2,q2,p3,q3,p4,q4,p5,q5,p6,q6,p7,q7⟩ ⟨⟨kd,ex,le⟩,rts,rus,tr,lv,⟨mo,li⟩,st,⟨nw,fl⟩,nx,dr⟩→GtV W ⟨u1,y1,u2,y2,u3,y3,u4,y4,u5,y5,u6,y6,u7,y7⟩ ⟨⟨kd,ex,le⟩,rts,rus,tr,lv,⟨mo,li⟩,st,⟨nw,fl⟩,nx,dr⟩→Calls Tryz.prog 40 #[.slice p1 n1 q1,.slice u1 n1 y1] W fun e w'=>e = .returned (.bool true)∧Below W.heap.size W w'):=fun W h1 h2=>by
  rw [← hn1]
  exact eqRtW _ _ rts W (by have:=hB;simp only [Gt.big] at this;omega) h1.routes h2.routes
 have E2:Hid (∀ W,GtV W ⟨p1,q1,p2,q2,p3,q3,p4,q4,p5,q5,p6,q6,p7,q7⟩ ⟨⟨kd,ex,le⟩,rts,rus,tr,lv,⟨mo,li⟩,st,⟨nw,fl⟩,nx,dr⟩→GtV W ⟨u1,y1,u2,y2,u3,y3,u4,y4,u5,y5,u6,y6,u7,y7⟩ ⟨⟨kd,ex,le⟩,rts,rus,tr,lv,⟨mo,li⟩,st,⟨nw,fl⟩,nx,dr⟩→Calls Tryz.prog 41 #[.slice p2 n2 q2,.slice u2 n2 y2] W fun e w'=>e = .returned (.bool true)∧Below W.heap.size W w'):=fun W h1 h2=>by
  rw [← hn2]
  exact eqRuW _ _ rus W (by have:=hB;simp only [Gt.big] at this;omega) h1.rules h2.rules
 have E3:Hid (∀ W,GtV W ⟨p1,q1,p2,q2,p3,q3,p4,q4,p5,q5,p6,q6,p7,q7⟩ ⟨⟨kd,ex,le⟩,rts,rus,tr,lv,⟨mo,li⟩,st,⟨nw,fl⟩,nx,dr⟩→GtV W ⟨u1,y1,u2,y2,u3,y3,u4,y4,u5,y5,u6,y6,u7,y7⟩ ⟨⟨kd,ex,le⟩,rts,rus,tr,lv,⟨mo,li⟩,st,⟨nw,fl⟩,nx,dr⟩→Calls Tryz.prog 42 #[.slice p3 n3 q3,.slice u3 n3 y3] W fun e w'=>e = .returned (.bool true)∧Below W.heap.size W w'):=fun W h1 h2=>by
  rw [← hn3]
  exact eqNdW _ _ tr W (by have:=hB;simp only [Gt.big] at this;omega) h1.tree h2.tree
 have E4:Hid (∀ W,GtV W ⟨p1,q1,p2,q2,p3,q3,p4,q4,p5,q5,p6,q6,p7,q7⟩ ⟨⟨kd,ex,le⟩,rts,rus,tr,lv,⟨mo,li⟩,st,⟨nw,fl⟩,nx,dr⟩→GtV W ⟨u1,y1,u2,y2,u3,y3,u4,y4,u5,y5,u6,y6,u7,y7⟩ ⟨⟨kd,ex,le⟩,rts,rus,tr,lv,⟨mo,li⟩,st,⟨nw,fl⟩,nx,dr⟩→Calls Tryz.prog 43 #[.slice p4 n4 q4,.slice u4 n4 y4] W fun e w'=>e = .returned (.bool true)∧Below W.heap.size W w'):=fun W h1 h2=>by
  rw [← hn4]
  exact eqIntW _ _ lv W (by have:=hB;simp only [Gt.big] at this;omega) h1.leaves h2.leaves
 have E5:Hid (∀ W,GtV W ⟨p1,q1,p2,q2,p3,q3,p4,q4,p5,q5,p6,q6,p7,q7⟩ ⟨⟨kd,ex,le⟩,rts,rus,tr,lv,⟨mo,li⟩,st,⟨nw,fl⟩,nx,dr⟩→GtV W ⟨u1,y1,u2,y2,u3,y3,u4,y4,u5,y5,u6,y6,u7,y7⟩ ⟨⟨kd,ex,le⟩,rts,rus,tr,lv,⟨mo,li⟩,st,⟨nw,fl⟩,nx,dr⟩→Calls Tryz.prog 44 #[.agg #[.int .i64 mo,.slice p5 n5 q5],.agg #[.int .i64 mo,.slice u5 n5 y5]] W fun e w'=>e = .returned (.bool true)∧Below W.heap.size W w'):=fun W h1 h2=>by
  rw [← hn5]
  exact eqRws _ _ ⟨mo,li⟩ W (by have:=hB;simp only [Gt.big] at this;omega) h1.rows h2.rows
 have E6:Hid (∀ W,GtV W ⟨p1,q1,p2,q2,p3,q3,p4,q4,p5,q5,p6,q6,p7,q7⟩ ⟨⟨kd,ex,le⟩,rts,rus,tr,lv,⟨mo,li⟩,st,⟨nw,fl⟩,nx,dr⟩→GtV W ⟨u1,y1,u2,y2,u3,y3,u4,y4,u5,y5,u6,y6,u7,y7⟩ ⟨⟨kd,ex,le⟩,rts,rus,tr,lv,⟨mo,li⟩,st,⟨nw,fl⟩,nx,dr⟩→Calls Tryz.prog 45 #[.slice p6 n6 q6,.slice u6 n6 y6] W fun e w'=>e = .returned (.bool true)∧Below W.heap.size W w'):=fun W h1 h2=>by
  rw [← hn6]
  exact eqSrW _ _ st W (by have:=hB;simp only [Gt.big] at this;omega) h1.steers h2.steers
 have E7:Hid (∀ W,GtV W ⟨p1,q1,p2,q2,p3,q3,p4,q4,p5,q5,p6,q6,p7,q7⟩ ⟨⟨kd,ex,le⟩,rts,rus,tr,lv,⟨mo,li⟩,st,⟨nw,fl⟩,nx,dr⟩→GtV W ⟨u1,y1,u2,y2,u3,y3,u4,y4,u5,y5,u6,y6,u7,y7⟩ ⟨⟨kd,ex,le⟩,rts,rus,tr,lv,⟨mo,li⟩,st,⟨nw,fl⟩,nx,dr⟩→Calls Tryz.prog 46 #[.agg #[.int .i64 nw,.slice p7 n7 q7],.agg #[.int .i64 nw,.slice u7 n7 y7]] W fun e w'=>e = .returned (.bool true)∧Below W.heap.size W w'):=fun W h1 h2=>by
  rw [← hn7]
  exact eqFss _ _ ⟨nw,fl⟩ W (by have:=hB;simp only [Gt.big] at this;omega) h1.fair h2.fair
 rw [hn1,hn2,hn3,hn4,hn5,hn6,hn7]
 have LN':Hid _:=LN
 clear LN h1 h2 k1 k2 hB
 obtain ⟨W0,hW⟩:∃ W,W=(w.alloc (.cells (gc kd ex le (.slice p1 n1 q1) (.slice p2 n2 q2) (.slice p3 n3 q3) (.slice p4 n4 q4) mo (.slice p5 n5 q5) (.slice p6 n6 q6) nw (.slice p7 n7 q7) nx dr) 50)).alloc (.cells (gc kd ex le (.slice u1 n1 y1) (.slice u2 n2 y2) (.slice u3 n3 y3) (.slice u4 n4 y4) mo (.slice u5 n5 y5) (.slice u6 n6 y6) nw (.slice u7 n7 y7) nx dr) 50):=⟨_,rfl⟩
 obtain ⟨A,hA⟩:∃ A,A=w.heap.size:=⟨_,rfl⟩
 obtain ⟨B,hBq⟩:∃ B,B=w.heap.size+1:=⟨_,rfl⟩
 have Z0:Hid (Boxed W0 A (gc kd ex le (.slice p1 n1 q1) (.slice p2 n2 q2) (.slice p3 n3 q3) (.slice p4 n4 q4) mo (.slice p5 n5 q5) (.slice p6 n6 q6) nw (.slice p7 n7 q7) nx dr) 50∧Boxed W0 B (gc kd ex le (.slice u1 n1 y1) (.slice u2 n2 y2) (.slice u3 n3 y3) (.slice u4 n4 y4) mo (.slice u5 n5 y5) (.slice u6 n6 y6) nw (.slice u7 n7 y7) nx dr) 50∧GtV W0 ⟨p1,q1,p2,q2,p3,q3,p4,q4,p5,q5,p6,q6,p7,q7⟩ ⟨⟨kd,ex,le⟩,rts,rus,tr,lv,⟨mo,li⟩,st,⟨nw,fl⟩,nx,dr⟩∧GtV W0 ⟨u1,y1,u2,y2,u3,y3,u4,y4,u5,y5,u6,y6,u7,y7⟩ ⟨⟨kd,ex,le⟩,rts,rus,tr,lv,⟨mo,li⟩,st,⟨nw,fl⟩,nx,dr⟩∧Below w.heap.size w W0):=by
  have bw:Below w.heap.size w W0:=by rw [hW];exact ((Below.refl _ _).alloc nlr _).alloc (by simp) _
  refine ⟨?_,?_,Hv1.out.below bw,Hv2.out.below bw,bw⟩
  ·rw [hW,hA];exact (Boxed.new _ _ _).more _
  ·rw [hW,hBq]
   have:=Boxed.new (w.alloc (.cells (gc kd ex le (.slice p1 n1 q1) (.slice p2 n2 q2) (.slice p3 n3 q3) (.slice p4 n4 q4) mo (.slice p5 n5 q5) (.slice p6 n6 q6) nw (.slice p7 n7 q7) nx dr) 50)) (gc kd ex le (.slice u1 n1 y1) (.slice u2 n2 y2) (.slice u3 n3 y3) (.slice u4 n4 y4) mo (.slice u5 n5 y5) (.slice u6 n6 y6) nw (.slice u7 n7 y7) nx dr) 50
   simpa using this
 have HW:Hid (W0=_):=hW
 have HA:Hid (A=_):=hA
 have HBq:Hid (B=_):=hBq
 clear hW hA hBq Hv1 Hv2 hn1 hn2 hn3 hn4 hn5 hn6 hn7
 go_enter Tryz.func9,Tryz.ntmps9
 go_upto_region 1 with fail
 rw [← HW.out,← HBq.out,← HA.out]
 clear HW HA HBq
 have c0:W0.cell? ⟨A,0,none⟩=some (.int .i64 kd):=Z0.out.1.cell 0 rfl
 have d0:W0.cell? ⟨B,0,none⟩=some (.int .i64 kd):=Z0.out.2.1.cell 0 rfl
 have c1:W0.cell? ⟨A,1,none⟩=some (.int .i64 ex):=Z0.out.1.cell 1 rfl
 have d1:W0.cell? ⟨B,1,none⟩=some (.int .i64 ex):=Z0.out.2.1.cell 1 rfl
 have c2:W0.cell? ⟨A,2,none⟩=some (.int .i64 le):=Z0.out.1.cell 2 rfl
 have d2:W0.cell? ⟨B,2,none⟩=some (.int .i64 le):=Z0.out.2.1.cell 2 rfl
 go_wp2_with fail
 refine (LN'.out _).mono ?_
 rintro e W1 ⟨rfl,q⟩
 have Z1:Hid (Boxed W1 A (gc kd ex le (.slice p1 n1 q1) (.slice p2 n2 q2) (.slice p3 n3 q3) (.slice p4 n4 q4) mo (.slice p5 n5 q5) (.slice p6 n6 q6) nw (.slice p7 n7 q7) nx dr) 50∧Boxed W1 B (gc kd ex le (.slice u1 n1 y1) (.slice u2 n2 y2) (.slice u3 n3 y3) (.slice u4 n4 y4) mo (.slice u5 n5 y5) (.slice u6 n6 y6) nw (.slice u7 n7 y7) nx dr) 50∧GtV W1 ⟨p1,q1,p2,q2,p3,q3,p4,q4,p5,q5,p6,q6,p7,q7⟩ ⟨⟨kd,ex,le⟩,rts,rus,tr,lv,⟨mo,li⟩,st,⟨nw,fl⟩,nx,dr⟩∧GtV W1 ⟨u1,y1,u2,y2,u3,y3,u4,y4,u5,y5,u6,y6,u7,y7⟩ ⟨⟨kd,ex,le⟩,rts,rus,tr,lv,⟨mo,li⟩,st,⟨nw,fl⟩,nx,dr⟩∧Below w.heap.size w W1):=⟨Z0.out.1.below Z0.out.1.under q,Z0.out.2.1.below Z0.out.2.1.under q,Z0.out.2.2.1.below q,Z0.out.2.2.2.1.below q,Z0.out.2.2.2.2.trans (q.mono Z0.out.2.2.2.2.size)⟩
 clear q c0 d0 c1 d1 c2 d2 Z0
 have c3:W1.cell? ⟨A,3,none⟩=some (.slice p1 n1 q1):=Z1.out.1.cell 3 rfl
 have d3:W1.cell? ⟨B,3,none⟩=some (.slice u1 n1 y1):=Z1.out.2.1.cell 3 rfl
 go_wp2_with fail
 refine (E1.out _ Z1.out.2.2.1 Z1.out.2.2.2.1).mono ?_
 rintro e W2 ⟨rfl,q⟩
 have Z2:Hid (Boxed W2 A (gc kd ex le (.slice p1 n1 q1) (.slice p2 n2 q2) (.slice p3 n3 q3) (.slice p4 n4 q4) mo (.slice p5 n5 q5) (.slice p6 n6 q6) nw (.slice p7 n7 q7) nx dr) 50∧Boxed W2 B (gc kd ex le (.slice u1 n1 y1) (.slice u2 n2 y2) (.slice u3 n3 y3) (.slice u4 n4 y4) mo (.slice u5 n5 y5) (.slice u6 n6 y6) nw (.slice u7 n7 y7) nx dr) 50∧GtV W2 ⟨p1,q1,p2,q2,p3,q3,p4,q4,p5,q5,p6,q6,p7,q7⟩ ⟨⟨kd,ex,le⟩,rts,rus,tr,lv,⟨mo,li⟩,st,⟨nw,fl⟩,nx,dr⟩∧GtV W2 ⟨u1,y1,u2,y2,u3,y3,u4,y4,u5,y5,u6,y6,u7,y7⟩ ⟨⟨kd,ex,le⟩,rts,rus,tr,lv,⟨mo,li⟩,st,⟨nw,fl⟩,nx,dr⟩∧Below w.heap.size w W2):=⟨Z1.out.1.below Z1.out.1.under q,Z1.out.2.1.below Z1.out.2.1.under q,Z1.out.2.2.1.below q,Z1.out.2.2.2.1.below q,Z1.out.2.2.2.2.trans (q.mono Z1.out.2.2.2.2.size)⟩
 clear q c3 d3 Z1
 have c4:W2.cell? ⟨A,4,none⟩=some (.slice p2 n2 q2):=Z2.out.1.cell 4 rfl
 have d4:W2.cell? ⟨B,4,none⟩=some (.slice u2 n2 y2):=Z2.out.2.1.cell 4 rfl
 go_wp2_with fail
 refine (E2.out _ Z2.out.2.2.1 Z2.out.2.2.2.1).mono ?_
 rintro e W3 ⟨rfl,q⟩
 have Z3:Hid (Boxed W3 A (gc kd ex le (.slice p1 n1 q1) (.slice p2 n2 q2) (.slice p3 n3 q3) (.slice p4 n4 q4) mo (.slice p5 n5 q5) (.slice p6 n6 q6) nw (.slice p7 n7 q7) nx dr) 50∧Boxed W3 B (gc kd ex le (.slice u1 n1 y1) (.slice u2 n2 y2) (.slice u3 n3 y3) (.slice u4 n4 y4) mo (.slice u5 n5 y5) (.slice u6 n6 y6) nw (.slice u7 n7 y7) nx dr) 50∧GtV W3 ⟨p1,q1,p2,q2,p3,q3,p4,q4,p5,q5,p6,q6,p7,q7⟩ ⟨⟨kd,ex,le⟩,rts,rus,tr,lv,⟨mo,li⟩,st,⟨nw,fl⟩,nx,dr⟩∧GtV W3 ⟨u1,y1,u2,y2,u3,y3,u4,y4,u5,y5,u6,y6,u7,y7⟩ ⟨⟨kd,ex,le⟩,rts,rus,tr,lv,⟨mo,li⟩,st,⟨nw,fl⟩,nx,dr⟩∧Below w.heap.size w W3):=⟨Z2.out.1.below Z2.out.1.under q,Z2.out.2.1.below Z2.out.2.1.under q,Z2.out.2.2.1.below q,Z2.out.2.2.2.1.below q,Z2.out.2.2.2.2.trans (q.mono Z2.out.2.2.2.2.size)⟩
 clear q c4 d4 Z2
 have c5:W3.cell? ⟨A,5,none⟩=some (.slice p3 n3 q3):=Z3.out.1.cell 5 rfl
 have d5:W3.cell? ⟨B,5,none⟩=some (.slice u3 n3 y3):=Z3.out.2.1.cell 5 rfl
 go_wp2_with fail
 refine (E3.out _ Z3.out.2.2.1 Z3.out.2.2.2.1).mono ?_
 rintro e W4 ⟨rfl,q⟩
 have Z4:Hid (Boxed W4 A (gc kd ex le (.slice p1 n1 q1) (.slice p2 n2 q2) (.slice p3 n3 q3) (.slice p4 n4 q4) mo (.slice p5 n5 q5) (.slice p6 n6 q6) nw (.slice p7 n7 q7) nx dr) 50∧Boxed W4 B (gc kd ex le (.slice u1 n1 y1) (.slice u2 n2 y2) (.slice u3 n3 y3) (.slice u4 n4 y4) mo (.slice u5 n5 y5) (.slice u6 n6 y6) nw (.slice u7 n7 y7) nx dr) 50∧GtV W4 ⟨p1,q1,p2,q2,p3,q3,p4,q4,p5,q5,p6,q6,p7,q7⟩ ⟨⟨kd,ex,le⟩,rts,rus,tr,lv,⟨mo,li⟩,st,⟨nw,fl⟩,nx,dr⟩∧GtV W4 ⟨u1,y1,u2,y2,u3,y3,u4,y4,u5,y5,u6,y6,u7,y7⟩ ⟨⟨kd,ex,le⟩,rts,rus,tr,lv,⟨mo,li⟩,st,⟨nw,fl⟩,nx,dr⟩∧Below w.heap.size w W4):=⟨Z3.out.1.below Z3.out.1.under q,Z3.out.2.1.below Z3.out.2.1.under q,Z3.out.2.2.1.below q,Z3.out.2.2.2.1.below q,Z3.out.2.2.2.2.trans (q.mono Z3.out.2.2.2.2.size)⟩
 clear q c5 d5 Z3
 have c6:W4.cell? ⟨A,6,none⟩=some (.slice p4 n4 q4):=Z4.out.1.cell 6 rfl
 have d6:W4.cell? ⟨B,6,none⟩=some (.slice u4 n4 y4):=Z4.out.2.1.cell 6 rfl
 go_wp2_with fail
 refine (E4.out _ Z4.out.2.2.1 Z4.out.2.2.2.1).mono ?_
 rintro e W5 ⟨rfl,q⟩
 have Z5:Hid (Boxed W5 A (gc kd ex le (.slice p1 n1 q1) (.slice p2 n2 q2) (.slice p3 n3 q3) (.slice p4 n4 q4) mo (.slice p5 n5 q5) (.slice p6 n6 q6) nw (.slice p7 n7 q7) nx dr) 50∧Boxed W5 B (gc kd ex le (.slice u1 n1 y1) (.slice u2 n2 y2) (.slice u3 n3 y3) (.slice u4 n4 y4) mo (.slice u5 n5 y5) (.slice u6 n6 y6) nw (.slice u7 n7 y7) nx dr) 50∧GtV W5 ⟨p1,q1,p2,q2,p3,q3,p4,q4,p5,q5,p6,q6,p7,q7⟩ ⟨⟨kd,ex,le⟩,rts,rus,tr,lv,⟨mo,li⟩,st,⟨nw,fl⟩,nx,dr⟩∧GtV W5 ⟨u1,y1,u2,y2,u3,y3,u4,y4,u5,y5,u6,y6,u7,y7⟩ ⟨⟨kd,ex,le⟩,rts,rus,tr,lv,⟨mo,li⟩,st,⟨nw,fl⟩,nx,dr⟩∧Below w.heap.size w W5):=⟨Z4.out.1.below Z4.out.1.under q,Z4.out.2.1.below Z4.out.2.1.under q,Z4.out.2.2.1.below q,Z4.out.2.2.2.1.below q,Z4.out.2.2.2.2.trans (q.mono Z4.out.2.2.2.2.size)⟩
 clear q c6 d6 Z4
 have c7:W5.cell? ⟨A,7,none⟩=some (.int .i64 mo):=Z5.out.1.cell 7 rfl
 have d7:W5.cell? ⟨B,7,none⟩=some (.int .i64 mo):=Z5.out.2.1.cell 7 rfl
 have c8:W5.cell? ⟨A,8,none⟩=some (.slice p5 n5 q5):=Z5.out.1.cell 8 rfl
 have d8:W5.cell? ⟨B,8,none⟩=some (.slice u5 n5 y5):=Z5.out.2.1.cell 8 rfl
 go_wp2_with fail
 refine (E5.out _ Z5.out.2.2.1 Z5.out.2.2.2.1).mono ?_
 rintro e W6 ⟨rfl,q⟩
 have Z6:Hid (Boxed W6 A (gc kd ex le (.slice p1 n1 q1) (.slice p2 n2 q2) (.slice p3 n3 q3) (.slice p4 n4 q4) mo (.slice p5 n5 q5) (.slice p6 n6 q6) nw (.slice p7 n7 q7) nx dr) 50∧Boxed W6 B (gc kd ex le (.slice u1 n1 y1) (.slice u2 n2 y2) (.slice u3 n3 y3) (.slice u4 n4 y4) mo (.slice u5 n5 y5) (.slice u6 n6 y6) nw (.slice u7 n7 y7) nx dr) 50∧GtV W6 ⟨p1,q1,p2,q2,p3,q3,p4,q4,p5,q5,p6,q6,p7,q7⟩ ⟨⟨kd,ex,le⟩,rts,rus,tr,lv,⟨mo,li⟩,st,⟨nw,fl⟩,nx,dr⟩∧GtV W6 ⟨u1,y1,u2,y2,u3,y3,u4,y4,u5,y5,u6,y6,u7,y7⟩ ⟨⟨kd,ex,le⟩,rts,rus,tr,lv,⟨mo,li⟩,st,⟨nw,fl⟩,nx,dr⟩∧Below w.heap.size w W6):=⟨Z5.out.1.below Z5.out.1.under q,Z5.out.2.1.below Z5.out.2.1.under q,Z5.out.2.2.1.below q,Z5.out.2.2.2.1.below q,Z5.out.2.2.2.2.trans (q.mono Z5.out.2.2.2.2.size)⟩
 clear q c7 d7 c8 d8 Z5
 have c9:W6.cell? ⟨A,9,none⟩=some (.slice p6 n6 q6):=Z6.out.1.cell 9 rfl
 have d9:W6.cell? ⟨B,9,none⟩=some (.slice u6 n6 y6):=Z6.out.2.1.cell 9 rfl
 go_wp2_with fail
 refine (E6.out _ Z6.out.2.2.1 Z6.out.2.2.2.1).mono ?_
 rintro e W7 ⟨rfl,q⟩
 have Z7:Hid (Boxed W7 A (gc kd ex le (.slice p1 n1 q1) (.slice p2 n2 q2) (.slice p3 n3 q3) (.slice p4 n4 q4) mo (.slice p5 n5 q5) (.slice p6 n6 q6) nw (.slice p7 n7 q7) nx dr) 50∧Boxed W7 B (gc kd ex le (.slice u1 n1 y1) (.slice u2 n2 y2) (.slice u3 n3 y3) (.slice u4 n4 y4) mo (.slice u5 n5 y5) (.slice u6 n6 y6) nw (.slice u7 n7 y7) nx dr) 50∧GtV W7 ⟨p1,q1,p2,q2,p3,q3,p4,q4,p5,q5,p6,q6,p7,q7⟩ ⟨⟨kd,ex,le⟩,rts,rus,tr,lv,⟨mo,li⟩,st,⟨nw,fl⟩,nx,dr⟩∧GtV W7 ⟨u1,y1,u2,y2,u3,y3,u4,y4,u5,y5,u6,y6,u7,y7⟩ ⟨⟨kd,ex,le⟩,rts,rus,tr,lv,⟨mo,li⟩,st,⟨nw,fl⟩,nx,dr⟩∧Below w.heap.size w W7):=⟨Z6.out.1.below Z6.out.1.under q,Z6.out.2.1.below Z6.out.2.1.under q,Z6.out.2.2.1.below q,Z6.out.2.2.2.1.below q,Z6.out.2.2.2.2.trans (q.mono Z6.out.2.2.2.2.size)⟩
 clear q c9 d9 Z6
 have c10:W7.cell? ⟨A,10,none⟩=some (.int .i64 nw):=Z7.out.1.cell 10 rfl
 have d10:W7.cell? ⟨B,10,none⟩=some (.int .i64 nw):=Z7.out.2.1.cell 10 rfl
 have c11:W7.cell? ⟨A,11,none⟩=some (.slice p7 n7 q7):=Z7.out.1.cell 11 rfl
 have d11:W7.cell? ⟨B,11,none⟩=some (.slice u7 n7 y7):=Z7.out.2.1.cell 11 rfl
 go_wp2_with fail
 refine (E7.out _ Z7.out.2.2.1 Z7.out.2.2.2.1).mono ?_
 rintro e W8 ⟨rfl,q⟩
 have Z8:Hid (Boxed W8 A (gc kd ex le (.slice p1 n1 q1) (.slice p2 n2 q2) (.slice p3 n3 q3) (.slice p4 n4 q4) mo (.slice p5 n5 q5) (.slice p6 n6 q6) nw (.slice p7 n7 q7) nx dr) 50∧Boxed W8 B (gc kd ex le (.slice u1 n1 y1) (.slice u2 n2 y2) (.slice u3 n3 y3) (.slice u4 n4 y4) mo (.slice u5 n5 y5) (.slice u6 n6 y6) nw (.slice u7 n7 y7) nx dr) 50∧GtV W8 ⟨p1,q1,p2,q2,p3,q3,p4,q4,p5,q5,p6,q6,p7,q7⟩ ⟨⟨kd,ex,le⟩,rts,rus,tr,lv,⟨mo,li⟩,st,⟨nw,fl⟩,nx,dr⟩∧GtV W8 ⟨u1,y1,u2,y2,u3,y3,u4,y4,u5,y5,u6,y6,u7,y7⟩ ⟨⟨kd,ex,le⟩,rts,rus,tr,lv,⟨mo,li⟩,st,⟨nw,fl⟩,nx,dr⟩∧Below w.heap.size w W8):=⟨Z7.out.1.below Z7.out.1.under q,Z7.out.2.1.below Z7.out.2.1.under q,Z7.out.2.2.1.below q,Z7.out.2.2.2.1.below q,Z7.out.2.2.2.2.trans (q.mono Z7.out.2.2.2.2.size)⟩
 clear q c10 d10 c11 d11 Z7
 have c12:W8.cell? ⟨A,12,none⟩=some (.int .i64 nx):=Z8.out.1.cell 12 rfl
 have d12:W8.cell? ⟨B,12,none⟩=some (.int .i64 nx):=Z8.out.2.1.cell 12 rfl
 have c13:W8.cell? ⟨A,13,none⟩=some (.int .i64 dr):=Z8.out.1.cell 13 rfl
 have d13:W8.cell? ⟨B,13,none⟩=some (.int .i64 dr):=Z8.out.2.1.cell 13 rfl
 go_wp2_with fail
 go_ret
 exact ⟨rfl,Z8.out.2.2.2.2⟩
theorem markGts (s:Int) (s0:0≤s) (s1:s≤274877906944) (b t:Nat) (v:Value) (g:Gt) (w:World) (hB:g.big≤1048576) (H:Hid (GtIn b t w v g)) :
 Calls Tryz.prog 11 #[v,.int .i64 s] w fun e w'=>e = .returned (.int .i64 (g.k7 s))∧GtIn b t w' v (g.mk' s)∧Span b t w w':=by
 obtain ⟨x,f,rfl,hG,hI,hA,hw⟩:=H.out
 obtain ⟨z1,z2,z3,z4,z5,z6,z7⟩:=Gt.small hB
 obtain ⟨y1,y2,y3,y4,y5,y6,y7⟩:=Gt.ks hB s0 s1
 have Fin:Hid (∀ w',GtW w' x f (g.mk' s)→t≤w'.heap.size→GtIn b t w' (g.val x) (g.mk' s)):=fun w' h hs=>⟨x,f,(Gt.mk_val s g x).symm,h,hI,hA,hs⟩
 have M1:Hid (∀ W,t≤W.heap.size→GtW W x f (⟨g.ln,g.routes,g.rules,g.tree,g.leaves,g.rows,g.steers,g.fair,g.next,g.draw⟩:Gt)→Calls Tryz.prog 47 #[(.slice x.a1 g.routes.length x.c1),.int .i64 s] W fun e w'=>e = .returned (.int .i64 (g.k1 s))∧GtW w' x f (⟨g.ln,rtMkS s g.routes,g.rules,g.tree,g.leaves,g.rows,g.steers,g.fair,g.next,g.draw⟩:Gt)∧Span b t W w'∧(∀ k,t≤k→k<W.heap.size→w'.heap[k]? = W.heap[k]?)):=fun W hs h=>by
  refine (markRtS s s0 (by omega) f.b1 f.t1 _ g.routes W z1 h.routes).mono fun e w' hh=>?_
  obtain ⟨rfl,r,sp⟩:=hh
  exact ⟨rfl,h.turn1 hI hs hA sp (by rw [rtMkS_length];exact r),sp.wide hI.l1 hI.h1,fun k k1 k2=>sp.block k k2 (.inr (Nat.le_trans hI.h1 k1))⟩
 have M2:Hid (∀ W,t≤W.heap.size→GtW W x f (⟨g.ln,rtMkS s g.routes,g.rules,g.tree,g.leaves,g.rows,g.steers,g.fair,g.next,g.draw⟩:Gt)→Calls Tryz.prog 48 #[(.slice x.a2 g.rules.length x.c2),.int .i64 (g.k1 s)] W fun e w'=>e = .returned (.int .i64 (g.k2 s))∧GtW w' x f (⟨g.ln,rtMkS s g.routes,ruMkS (g.k1 s) g.rules,g.tree,g.leaves,g.rows,g.steers,g.fair,g.next,g.draw⟩:Gt)∧Span b t W w'∧(∀ k,t≤k→k<W.heap.size→w'.heap[k]? = W.heap[k]?)):=fun W hs h=>by
  refine (markRuS (g.k1 s) y1.1 y1.2 f.b2 f.t2 _ g.rules W z2 h.rules).mono fun e w' hh=>?_
  obtain ⟨rfl,r,sp⟩:=hh
  exact ⟨rfl,h.turn2 hI hs hA sp (by rw [ruMkS_length];exact r),sp.wide hI.l2 hI.h2,fun k k1 k2=>sp.block k k2 (.inr (Nat.le_trans hI.h2 k1))⟩
 have M3:Hid (∀ W,t≤W.heap.size→GtW W x f (⟨g.ln,rtMkS s g.routes,ruMkS (g.k1 s) g.rules,g.tree,g.leaves,g.rows,g.steers,g.fair,g.next,g.draw⟩:Gt)→Calls Tryz.prog 49 #[(.slice x.a3 g.tree.length x.c3),.int .i64 (g.k2 s)] W fun e w'=>e = .returned (.int .i64 (g.k3 s))∧GtW w' x f (⟨g.ln,rtMkS s g.routes,ruMkS (g.k1 s) g.rules,ndMkS (g.k2 s) g.tree,g.leaves,g.rows,g.steers,g.fair,g.next,g.draw⟩:Gt)∧Span b t W w'∧(∀ k,t≤k→k<W.heap.size→w'.heap[k]? = W.heap[k]?)):=fun W hs h=>by
  refine (markNdS (g.k2 s) y2.1 y2.2 f.b3 f.t3 _ g.tree W z3 h.tree).mono fun e w' hh=>?_
  obtain ⟨rfl,r,sp⟩:=hh
  exact ⟨rfl,h.turn3 hI hs hA sp (by rw [ndMkS_length];exact r),sp.wide hI.l3 hI.h3,fun k k1 k2=>sp.block k k2 (.inr (Nat.le_trans hI.h3 k1))⟩
 have M4:Hid (∀ W,t≤W.heap.size→GtW W x f (⟨g.ln,rtMkS s g.routes,ruMkS (g.k1 s) g.rules,ndMkS (g.k2 s) g.tree,g.leaves,g.rows,g.steers,g.fair,g.next,g.draw⟩:Gt)→Calls Tryz.prog 50 #[(.slice x.a4 g.leaves.length x.c4),.int .i64 (g.k3 s)] W fun e w'=>e = .returned (.int .i64 (g.k4 s))∧GtW w' x f (⟨g.ln,rtMkS s g.routes,ruMkS (g.k1 s) g.rules,ndMkS (g.k2 s) g.tree,intMkS (g.k3 s) g.leaves,g.rows,g.steers,g.fair,g.next,g.draw⟩:Gt)∧Span b t W w'∧(∀ k,t≤k→k<W.heap.size→w'.heap[k]? = W.heap[k]?)):=fun W hs h=>by
  refine (markIntS (g.k3 s) y3.1 y3.2 f.b4 f.t4 _ g.leaves W z4 h.leaves).mono fun e w' hh=>?_
  obtain ⟨rfl,r,sp⟩:=hh
  exact ⟨rfl,h.turn4 hI hs hA sp (by rw [intMkS_length];exact r),sp.wide hI.l4 hI.h4,fun k k1 k2=>sp.block k k2 (.inr (Nat.le_trans hI.h4 k1))⟩
 have M5:Hid (∀ W,t≤W.heap.size→GtW W x f (⟨g.ln,rtMkS s g.routes,ruMkS (g.k1 s) g.rules,ndMkS (g.k2 s) g.tree,intMkS (g.k3 s) g.leaves,g.rows,g.steers,g.fair,g.next,g.draw⟩:Gt)→Calls Tryz.prog 51 #[(g.rows.val x.a5 x.c5),.int .i64 (g.k4 s)] W fun e w'=>e = .returned (.int .i64 (g.k5 s))∧GtW w' x f (⟨g.ln,rtMkS s g.routes,ruMkS (g.k1 s) g.rules,ndMkS (g.k2 s) g.tree,intMkS (g.k3 s) g.leaves,Rw.mk' (g.k4 s) g.rows,g.steers,g.fair,g.next,g.draw⟩:Gt)∧Span b t W w'∧(∀ k,t≤k→k<W.heap.size→w'.heap[k]? = W.heap[k]?)):=fun W hs h=>by
  refine (markRws (g.k4 s) y4.1 y4.2 f.b5 f.t5 _ g.rows W z5 h.rows).mono fun e w' hh=>?_
  obtain ⟨rfl,r,sp⟩:=hh
  exact ⟨rfl,h.turn5 hI hs hA sp (by have e:(Rw.mk' (g.k4 s) g.rows).val x.a5 x.c5=g.rows.val x.a5 x.c5:=by { unfold Rw.val;rw [rw_mk_len];rfl };rw [e];exact r),sp.wide hI.l5 hI.h5,fun k k1 k2=>sp.block k k2 (.inr (Nat.le_trans hI.h5 k1))⟩
 have M6:Hid (∀ W,t≤W.heap.size→GtW W x f (⟨g.ln,rtMkS s g.routes,ruMkS (g.k1 s) g.rules,ndMkS (g.k2 s) g.tree,intMkS (g.k3 s) g.leaves,Rw.mk' (g.k4 s) g.rows,g.steers,g.fair,g.next,g.draw⟩:Gt)→Calls Tryz.prog 52 #[(.slice x.a6 g.steers.length x.c6),.int .i64 (g.k5 s)] W fun e w'=>e = .returned (.int .i64 (g.k6 s))∧GtW w' x f (⟨g.ln,rtMkS s g.routes,ruMkS (g.k1 s) g.rules,ndMkS (g.k2 s) g.tree,intMkS (g.k3 s) g.leaves,Rw.mk' (g.k4 s) g.rows,srMkS (g.k5 s) g.steers,g.fair,g.next,g.draw⟩:Gt)∧Span b t W w'∧(∀ k,t≤k→k<W.heap.size→w'.heap[k]? = W.heap[k]?)):=fun W hs h=>by
  refine (markSrS (g.k5 s) y5.1 y5.2 f.b6 f.t6 _ g.steers W z6 h.steers).mono fun e w' hh=>?_
  obtain ⟨rfl,r,sp⟩:=hh
  exact ⟨rfl,h.turn6 hI hs hA sp (by rw [srMkS_length];exact r),sp.wide hI.l6 hI.h6,fun k k1 k2=>sp.block k k2 (.inr (Nat.le_trans hI.h6 k1))⟩
 have M7:Hid (∀ W,t≤W.heap.size→GtW W x f (⟨g.ln,rtMkS s g.routes,ruMkS (g.k1 s) g.rules,ndMkS (g.k2 s) g.tree,intMkS (g.k3 s) g.leaves,Rw.mk' (g.k4 s) g.rows,srMkS (g.k5 s) g.steers,g.fair,g.next,g.draw⟩:Gt)→Calls Tryz.prog 53 #[(g.fair.val x.a7 x.c7),.int .i64 (g.k6 s)] W fun e w'=>e = .returned (.int .i64 (g.k7 s))∧GtW w' x f (⟨g.ln,rtMkS s g.routes,ruMkS (g.k1 s) g.rules,ndMkS (g.k2 s) g.tree,intMkS (g.k3 s) g.leaves,Rw.mk' (g.k4 s) g.rows,srMkS (g.k5 s) g.steers,Fs.mk' (g.k6 s) g.fair,g.next,g.draw⟩:Gt)∧Span b t W w'∧(∀ k,t≤k→k<W.heap.size→w'.heap[k]? = W.heap[k]?)):=fun W hs h=>by
  refine (markFss (g.k6 s) y6.1 y6.2 f.b7 f.t7 _ g.fair W z7 h.fair).mono fun e w' hh=>?_
  obtain ⟨rfl,r,sp⟩:=hh
  exact ⟨rfl,h.turn7 hI hs hA sp (by have e:(Fs.mk' (g.k6 s) g.fair).val x.a7 x.c7=g.fair.val x.a7 x.c7:=by { unfold Fs.val;rw [fs_mk_len];rfl };rw [e];exact r),sp.wide hI.l7 hI.h7,fun k k1 k2=>sp.block k k2 (.inr (Nat.le_trans hI.h7 k1))⟩
 have G0:Hid (GtW w x f g):=hG
 have Hw:Hid (t≤w.heap.size):=hw
 clear H hG hB hw z1 z2 z3 z4 z5 z6 z7 y1 y2 y3 y4 y5 y6 y7 s0 s1
 obtain ⟨g1,hg1⟩:∃ g',g'=(⟨g.ln,rtMkS s g.routes,g.rules,g.tree,g.leaves,g.rows,g.steers,g.fair,g.next,g.draw⟩:Gt):=⟨_,rfl⟩
 obtain ⟨g2,hg2⟩:∃ g',g'=(⟨g.ln,rtMkS s g.routes,ruMkS (g.k1 s) g.rules,g.tree,g.leaves,g.rows,g.steers,g.fair,g.next,g.draw⟩:Gt):=⟨_,rfl⟩
 obtain ⟨g3,hg3⟩:∃ g',g'=(⟨g.ln,rtMkS s g.routes,ruMkS (g.k1 s) g.rules,ndMkS (g.k2 s) g.tree,g.leaves,g.rows,g.steers,g.fair,g.next,g.draw⟩:Gt):=⟨_,rfl⟩
 obtain ⟨g4,hg4⟩:∃ g',g'=(⟨g.ln,rtMkS s g.routes,ruMkS (g.k1 s) g.rules,ndMkS (g.k2 s) g.tree,intMkS (g.k3 s) g.leaves,g.rows,g.steers,g.fair,g.next,g.draw⟩:Gt):=⟨_,rfl⟩
 obtain ⟨g5,hg5⟩:∃ g',g'=(⟨g.ln,rtMkS s g.routes,ruMkS (g.k1 s) g.rules,ndMkS (g.k2 s) g.tree,intMkS (g.k3 s) g.leaves,Rw.mk' (g.k4 s) g.rows,g.steers,g.fair,g.next,g.draw⟩:Gt):=⟨_,rfl⟩
 obtain ⟨g6,hg6⟩:∃ g',g'=(⟨g.ln,rtMkS s g.routes,ruMkS (g.k1 s) g.rules,ndMkS (g.k2 s) g.tree,intMkS (g.k3 s) g.leaves,Rw.mk' (g.k4 s) g.rows,srMkS (g.k5 s) g.steers,g.fair,g.next,g.draw⟩:Gt):=⟨_,rfl⟩
 obtain ⟨g7,hg7⟩:∃ g',g'=(⟨g.ln,rtMkS s g.routes,ruMkS (g.k1 s) g.rules,ndMkS (g.k2 s) g.tree,intMkS (g.k3 s) g.leaves,Rw.mk' (g.k4 s) g.rows,srMkS (g.k5 s) g.steers,Fs.mk' (g.k6 s) g.fair,g.next,g.draw⟩:Gt):=⟨_,rfl⟩
 rw [← hg1] at M1 M2
 rw [← hg2] at M2 M3
 rw [← hg3] at M3 M4
 rw [← hg4] at M4 M5
 rw [← hg5] at M5 M6
 rw [← hg6] at M6 M7
 rw [← hg7] at M7
 have e7:g.mk' s=g7:=hg7.symm
 rw [e7] at Fin ⊢
 clear e7 hg1 hg2 hg3 hg4 hg5 hg6 hg7
 generalize g.k1 s=K1 at M1 M2
 generalize g.k2 s=K2 at M2 M3
 generalize g.k3 s=K3 at M3 M4
 generalize g.k4 s=K4 at M4 M5
 generalize g.k5 s=K5 at M5 M6
 generalize g.k6 s=K6 at M6 M7
 generalize g.k7 s=K7 at M7 ⊢
 obtain ⟨x1,d1,x2,d2,x3,d3,x4,d4,x5,d5,x6,d6,x7,d7⟩:=x
 obtain ⟨⟨kd,ex,le⟩,rts,rus,tr,lv,⟨mo,li⟩,st,⟨nw,fl⟩,nx,dr⟩:=g
 simp only [Gt.val,Gt.cells,Rw.val,Fs.val] at M1 M2 M3 M4 M5 M6 M7 Fin ⊢
 generalize rts.length=n1 at M1 Fin ⊢
 generalize rus.length=n2 at M2 Fin ⊢
 generalize tr.length=n3 at M3 Fin ⊢
 generalize lv.length=n4 at M4 Fin ⊢
 generalize li.length=n5 at M5 Fin ⊢
 generalize st.length=n6 at M6 Fin ⊢
 generalize fl.length=n7 at M7 Fin ⊢
 obtain ⟨A,hAq⟩:∃ A,A=w.heap.size:=⟨_,rfl⟩
 obtain ⟨W0,hW⟩:∃ W,W=w.alloc (.cells (gc kd ex le (.slice x1 n1 d1) (.slice x2 n2 d2) (.slice x3 n3 d3) (.slice x4 n4 d4) mo (.slice x5 n5 d5) (.slice x6 n6 d6) nw (.slice x7 n7 d7) nx dr) 50):=⟨_,rfl⟩
 have Z0:Hid (Boxed W0 A (gc kd ex le (.slice x1 n1 d1) (.slice x2 n2 d2) (.slice x3 n3 d3) (.slice x4 n4 d4) mo (.slice x5 n5 d5) (.slice x6 n6 d6) nw (.slice x7 n7 d7) nx dr) 50∧GtW W0 ⟨x1,d1,x2,d2,x3,d3,x4,d4,x5,d5,x6,d6,x7,d7⟩ f ⟨⟨kd,ex,le⟩,rts,rus,tr,lv,⟨mo,li⟩,st,⟨nw,fl⟩,nx,dr⟩∧Span b t w W0∧t≤W0.heap.size∧t≤A):=by
  have bw:Below w.heap.size w W0:=by rw [hW];exact (Below.refl _ _).alloc nlr _
  exact ⟨by rw [hW,hAq];exact Boxed.new _ _ _,G0.out.below bw,Span.of_below bw,Nat.le_trans Hw.out bw.size,by rw [hAq];exact Hw.out⟩
 have HW:Hid (W0=_):=hW
 have HA:Hid (A=_):=hAq
 clear hW hAq G0 Hw
 go_enter Tryz.func11,Tryz.ntmps11
 go_upto_region 1 with fail
 rw [← HW.out,← HA.out]
 clear HW HA
 have c3:W0.cell? ⟨A,3,none⟩=some (.slice x1 n1 d1):=Z0.out.1.cell 3 rfl
 go_wp2_with fail
 refine (M1.out _ Z0.out.2.2.2.1 Z0.out.2.1).mono ?_
 rintro e W1 ⟨rfl,r,sp,kp⟩
 have Z1:Hid (Boxed W1 A (gc kd ex le (.slice x1 n1 d1) (.slice x2 n2 d2) (.slice x3 n3 d3) (.slice x4 n4 d4) mo (.slice x5 n5 d5) (.slice x6 n6 d6) nw (.slice x7 n7 d7) nx dr) 50∧GtW W1 ⟨x1,d1,x2,d2,x3,d3,x4,d4,x5,d5,x6,d6,x7,d7⟩ f g1∧Span b t w W1∧t≤W1.heap.size∧t≤A):=⟨(kp A Z0.out.2.2.2.2 Z0.out.1.under).trans Z0.out.1,r,Z0.out.2.2.1.trans sp,Nat.le_trans Z0.out.2.2.2.1 sp.size,Z0.out.2.2.2.2⟩
 clear r sp kp c3 Z0 M1
 have c4:W1.cell? ⟨A,4,none⟩=some (.slice x2 n2 d2):=Z1.out.1.cell 4 rfl
 go_wp2_with fail
 refine (M2.out _ Z1.out.2.2.2.1 Z1.out.2.1).mono ?_
 rintro e W2 ⟨rfl,r,sp,kp⟩
 have Z2:Hid (Boxed W2 A (gc kd ex le (.slice x1 n1 d1) (.slice x2 n2 d2) (.slice x3 n3 d3) (.slice x4 n4 d4) mo (.slice x5 n5 d5) (.slice x6 n6 d6) nw (.slice x7 n7 d7) nx dr) 50∧GtW W2 ⟨x1,d1,x2,d2,x3,d3,x4,d4,x5,d5,x6,d6,x7,d7⟩ f g2∧Span b t w W2∧t≤W2.heap.size∧t≤A):=⟨(kp A Z1.out.2.2.2.2 Z1.out.1.under).trans Z1.out.1,r,Z1.out.2.2.1.trans sp,Nat.le_trans Z1.out.2.2.2.1 sp.size,Z1.out.2.2.2.2⟩
 clear r sp kp c4 Z1 M2
 have c5:W2.cell? ⟨A,5,none⟩=some (.slice x3 n3 d3):=Z2.out.1.cell 5 rfl
 go_wp2_with fail
 refine (M3.out _ Z2.out.2.2.2.1 Z2.out.2.1).mono ?_
 rintro e W3 ⟨rfl,r,sp,kp⟩
 have Z3:Hid (Boxed W3 A (gc kd ex le (.slice x1 n1 d1) (.slice x2 n2 d2) (.slice x3 n3 d3) (.slice x4 n4 d4) mo (.slice x5 n5 d5) (.slice x6 n6 d6) nw (.slice x7 n7 d7) nx dr) 50∧GtW W3 ⟨x1,d1,x2,d2,x3,d3,x4,d4,x5,d5,x6,d6,x7,d7⟩ f g3∧Span b t w W3∧t≤W3.heap.size∧t≤A):=⟨(kp A Z2.out.2.2.2.2 Z2.out.1.under).trans Z2.out.1,r,Z2.out.2.2.1.trans sp,Nat.le_trans Z2.out.2.2.2.1 sp.size,Z2.out.2.2.2.2⟩
 clear r sp kp c5 Z2 M3
 have c6:W3.cell? ⟨A,6,none⟩=some (.slice x4 n4 d4):=Z3.out.1.cell 6 rfl
 go_wp2_with fail
 refine (M4.out _ Z3.out.2.2.2.1 Z3.out.2.1).mono ?_
 rintro e W4 ⟨rfl,r,sp,kp⟩
 have Z4:Hid (Boxed W4 A (gc kd ex le (.slice x1 n1 d1) (.slice x2 n2 d2) (.slice x3 n3 d3) (.slice x4 n4 d4) mo (.slice x5 n5 d5) (.slice x6 n6 d6) nw (.slice x7 n7 d7) nx dr) 50∧GtW W4 ⟨x1,d1,x2,d2,x3,d3,x4,d4,x5,d5,x6,d6,x7,d7⟩ f g4∧Span b t w W4∧t≤W4.heap.size∧t≤A):=⟨(kp A Z3.out.2.2.2.2 Z3.out.1.under).trans Z3.out.1,r,Z3.out.2.2.1.trans sp,Nat.le_trans Z3.out.2.2.2.1 sp.size,Z3.out.2.2.2.2⟩
 clear r sp kp c6 Z3 M4
 have c7:W4.cell? ⟨A,7,none⟩=some (.int .i64 mo):=Z4.out.1.cell 7 rfl
 have c8:W4.cell? ⟨A,8,none⟩=some (.slice x5 n5 d5):=Z4.out.1.cell 8 rfl
 go_wp2_with fail
 refine (M5.out _ Z4.out.2.2.2.1 Z4.out.2.1).mono ?_
 rintro e W5 ⟨rfl,r,sp,kp⟩
 have Z5:Hid (Boxed W5 A (gc kd ex le (.slice x1 n1 d1) (.slice x2 n2 d2) (.slice x3 n3 d3) (.slice x4 n4 d4) mo (.slice x5 n5 d5) (.slice x6 n6 d6) nw (.slice x7 n7 d7) nx dr) 50∧GtW W5 ⟨x1,d1,x2,d2,x3,d3,x4,d4,x5,d5,x6,d6,x7,d7⟩ f g5∧Span b t w W5∧t≤W5.heap.size∧t≤A):=⟨(kp A Z4.out.2.2.2.2 Z4.out.1.under).trans Z4.out.1,r,Z4.out.2.2.1.trans sp,Nat.le_trans Z4.out.2.2.2.1 sp.size,Z4.out.2.2.2.2⟩
 clear r sp kp c7 c8 Z4 M5
 have c9:W5.cell? ⟨A,9,none⟩=some (.slice x6 n6 d6):=Z5.out.1.cell 9 rfl
 go_wp2_with fail
 refine (M6.out _ Z5.out.2.2.2.1 Z5.out.2.1).mono ?_
 rintro e W6 ⟨rfl,r,sp,kp⟩
 have Z6:Hid (Boxed W6 A (gc kd ex le (.slice x1 n1 d1) (.slice x2 n2 d2) (.slice x3 n3 d3) (.slice x4 n4 d4) mo (.slice x5 n5 d5) (.slice x6 n6 d6) nw (.slice x7 n7 d7) nx dr) 50∧GtW W6 ⟨x1,d1,x2,d2,x3,d3,x4,d4,x5,d5,x6,d6,x7,d7⟩ f g6∧Span b t w W6∧t≤W6.heap.size∧t≤A):=⟨(kp A Z5.out.2.2.2.2 Z5.out.1.under).trans Z5.out.1,r,Z5.out.2.2.1.trans sp,Nat.le_trans Z5.out.2.2.2.1 sp.size,Z5.out.2.2.2.2⟩
 clear r sp kp c9 Z5 M6
 have c10:W6.cell? ⟨A,10,none⟩=some (.int .i64 nw):=Z6.out.1.cell 10 rfl
 have c11:W6.cell? ⟨A,11,none⟩=some (.slice x7 n7 d7):=Z6.out.1.cell 11 rfl
 go_wp2_with fail
 refine (M7.out _ Z6.out.2.2.2.1 Z6.out.2.1).mono ?_
 rintro e W7 ⟨rfl,r,sp,kp⟩
 have Z7:Hid (Boxed W7 A (gc kd ex le (.slice x1 n1 d1) (.slice x2 n2 d2) (.slice x3 n3 d3) (.slice x4 n4 d4) mo (.slice x5 n5 d5) (.slice x6 n6 d6) nw (.slice x7 n7 d7) nx dr) 50∧GtW W7 ⟨x1,d1,x2,d2,x3,d3,x4,d4,x5,d5,x6,d6,x7,d7⟩ f g7∧Span b t w W7∧t≤W7.heap.size∧t≤A):=⟨(kp A Z6.out.2.2.2.2 Z6.out.1.under).trans Z6.out.1,r,Z6.out.2.2.1.trans sp,Nat.le_trans Z6.out.2.2.2.1 sp.size,Z6.out.2.2.2.2⟩
 clear r sp kp c10 c11 Z6 M7
 go_wp2
 go_ret
 exact ⟨rfl,Fin.out _ Z7.out.2.1 Z7.out.2.2.2.1,Z7.out.2.2.1⟩
theorem heldGts (s:Int) (s0:0≤s) (s1:s≤274877906944) (v:Value) (g:Gt) (w:World) (hB:g.big≤1048576) (H:Hid (GtAt w v (g.mk' s))) :
 Calls Tryz.prog 12 #[v,.int .i64 s] w fun e w'=>e = .returned (.int .i64 (g.k7 s))∧Below w.heap.size w w':=by
 obtain ⟨x,rfl,hG⟩:=H.out
 obtain ⟨z1,z2,z3,z4,z5,z6,z7⟩:=Gt.small hB
 obtain ⟨y1,y2,y3,y4,y5,y6,y7⟩:=Gt.ks hB s0 s1
 have M1:Hid (∀ W,GtV W x (g.mk' s)→Calls Tryz.prog 54 #[(.slice x.a1 g.routes.length x.c1),.int .i64 s] W fun e w'=>e = .returned (.int .i64 (g.k1 s))∧Below W.heap.size W w'):=fun W h=>by
  have e:(Value.slice x.a1 g.routes.length x.c1) = .slice x.a1 (rtMkS s g.routes).length x.c1:=by rw [rtMkS_length]
  rw [e]
  exact heldRtS s s0 (by omega) _ g.routes W z1 h.routes
 have M2:Hid (∀ W,GtV W x (g.mk' s)→Calls Tryz.prog 55 #[(.slice x.a2 g.rules.length x.c2),.int .i64 (g.k1 s)] W fun e w'=>e = .returned (.int .i64 (g.k2 s))∧Below W.heap.size W w'):=fun W h=>by
  have e:(Value.slice x.a2 g.rules.length x.c2) = .slice x.a2 (ruMkS (g.k1 s) g.rules).length x.c2:=by rw [ruMkS_length]
  rw [e]
  exact heldRuS (g.k1 s) y1.1 y1.2 _ g.rules W z2 h.rules
 have M3:Hid (∀ W,GtV W x (g.mk' s)→Calls Tryz.prog 56 #[(.slice x.a3 g.tree.length x.c3),.int .i64 (g.k2 s)] W fun e w'=>e = .returned (.int .i64 (g.k3 s))∧Below W.heap.size W w'):=fun W h=>by
  have e:(Value.slice x.a3 g.tree.length x.c3) = .slice x.a3 (ndMkS (g.k2 s) g.tree).length x.c3:=by rw [ndMkS_length]
  rw [e]
  exact heldNdS (g.k2 s) y2.1 y2.2 _ g.tree W z3 h.tree
 have M4:Hid (∀ W,GtV W x (g.mk' s)→Calls Tryz.prog 57 #[(.slice x.a4 g.leaves.length x.c4),.int .i64 (g.k3 s)] W fun e w'=>e = .returned (.int .i64 (g.k4 s))∧Below W.heap.size W w'):=fun W h=>by
  have e:(Value.slice x.a4 g.leaves.length x.c4) = .slice x.a4 (intMkS (g.k3 s) g.leaves).length x.c4:=by rw [intMkS_length]
  rw [e]
  exact heldIntS (g.k3 s) y3.1 y3.2 _ g.leaves W z4 h.leaves
 have M5:Hid (∀ W,GtV W x (g.mk' s)→Calls Tryz.prog 58 #[(g.rows.val x.a5 x.c5),.int .i64 (g.k4 s)] W fun e w'=>e = .returned (.int .i64 (g.k5 s))∧Below W.heap.size W w'):=fun W h=>by
  have e:g.rows.val x.a5 x.c5=(Rw.mk' (g.k4 s) g.rows).val x.a5 x.c5:=by { unfold Rw.val;rw [rw_mk_len];rfl }
  rw [e]
  exact heldRws (g.k4 s) y4.1 y4.2 _ g.rows W z5 h.rows
 have M6:Hid (∀ W,GtV W x (g.mk' s)→Calls Tryz.prog 59 #[(.slice x.a6 g.steers.length x.c6),.int .i64 (g.k5 s)] W fun e w'=>e = .returned (.int .i64 (g.k6 s))∧Below W.heap.size W w'):=fun W h=>by
  have e:(Value.slice x.a6 g.steers.length x.c6) = .slice x.a6 (srMkS (g.k5 s) g.steers).length x.c6:=by rw [srMkS_length]
  rw [e]
  exact heldSrS (g.k5 s) y5.1 y5.2 _ g.steers W z6 h.steers
 have M7:Hid (∀ W,GtV W x (g.mk' s)→Calls Tryz.prog 60 #[(g.fair.val x.a7 x.c7),.int .i64 (g.k6 s)] W fun e w'=>e = .returned (.int .i64 (g.k7 s))∧Below W.heap.size W w'):=fun W h=>by
  have e:g.fair.val x.a7 x.c7=(Fs.mk' (g.k6 s) g.fair).val x.a7 x.c7:=by { unfold Fs.val;rw [fs_mk_len];rfl }
  rw [e]
  exact heldFss (g.k6 s) y6.1 y6.2 _ g.fair W z7 h.fair
 have G0:Hid (GtV w x (g.mk' s)):=hG
 rw [Gt.mk_val]
 have q1:¬ g.k1 s<0:=by omega
 have q2:¬ g.k2 s<0:=by omega
 have q3:¬ g.k3 s<0:=by omega
 have q4:¬ g.k4 s<0:=by omega
 have q5:¬ g.k5 s<0:=by omega
 have q6:¬ g.k6 s<0:=by omega
 have q7:¬ g.k7 s<0:=by omega
 clear H hG hB z1 z2 z3 z4 z5 z6 z7 y1 y2 y3 y4 y5 y6 y7 s0 s1
 generalize g.mk' s=gm at M1 M2 M3 M4 M5 M6 M7 G0
 generalize g.k1 s=K1 at M1 q1 M2
 generalize g.k2 s=K2 at M2 q2 M3
 generalize g.k3 s=K3 at M3 q3 M4
 generalize g.k4 s=K4 at M4 q4 M5
 generalize g.k5 s=K5 at M5 q5 M6
 generalize g.k6 s=K6 at M6 q6 M7
 generalize g.k7 s=K7 at M7 q7 ⊢
 have q1':decide (K1<0)=false:=decide_eq_false q1
 have q2':decide (K2<0)=false:=decide_eq_false q2
 have q3':decide (K3<0)=false:=decide_eq_false q3
 have q4':decide (K4<0)=false:=decide_eq_false q4
 have q5':decide (K5<0)=false:=decide_eq_false q5
 have q6':decide (K6<0)=false:=decide_eq_false q6
 have q7':decide (K7<0)=false:=decide_eq_false q7
 obtain ⟨x1,d1,x2,d2,x3,d3,x4,d4,x5,d5,x6,d6,x7,d7⟩:=x
 obtain ⟨⟨kd,ex,le⟩,rts,rus,tr,lv,⟨mo,li⟩,st,⟨nw,fl⟩,nx,dr⟩:=g
 simp only [Gt.val,Gt.cells,Rw.val,Fs.val] at M1 M2 M3 M4 M5 M6 M7 ⊢
 generalize rts.length=n1 at M1 ⊢
 generalize rus.length=n2 at M2 ⊢
 generalize tr.length=n3 at M3 ⊢
 generalize lv.length=n4 at M4 ⊢
 generalize li.length=n5 at M5 ⊢
 generalize st.length=n6 at M6 ⊢
 generalize fl.length=n7 at M7 ⊢
 obtain ⟨A,hAq⟩:∃ A,A=w.heap.size:=⟨_,rfl⟩
 obtain ⟨W0,hW⟩:∃ W,W=w.alloc (.cells (gc kd ex le (.slice x1 n1 d1) (.slice x2 n2 d2) (.slice x3 n3 d3) (.slice x4 n4 d4) mo (.slice x5 n5 d5) (.slice x6 n6 d6) nw (.slice x7 n7 d7) nx dr) 50):=⟨_,rfl⟩
 have Z0:Hid (Boxed W0 A (gc kd ex le (.slice x1 n1 d1) (.slice x2 n2 d2) (.slice x3 n3 d3) (.slice x4 n4 d4) mo (.slice x5 n5 d5) (.slice x6 n6 d6) nw (.slice x7 n7 d7) nx dr) 50∧GtV W0 ⟨x1,d1,x2,d2,x3,d3,x4,d4,x5,d5,x6,d6,x7,d7⟩ gm∧Below w.heap.size w W0):=by
  have bw:Below w.heap.size w W0:=by rw [hW];exact (Below.refl _ _).alloc nlr _
  exact ⟨by rw [hW,hAq];exact Boxed.new _ _ _,G0.out.below bw,bw⟩
 have HW:Hid (W0=_):=hW
 have HA:Hid (A=_):=hAq
 clear hW hAq G0
 go_enter Tryz.func12,Tryz.ntmps12
 go_upto_region 1 with fail
 rw [← HW.out,← HA.out]
 clear HW HA
 have c3:W0.cell? ⟨A,3,none⟩=some (.slice x1 n1 d1):=Z0.out.1.cell 3 rfl
 go_wp2_with fail
 refine (M1.out _ Z0.out.2.1).mono ?_
 rintro e W1 ⟨rfl,r⟩
 have Z1:Hid (Boxed W1 A (gc kd ex le (.slice x1 n1 d1) (.slice x2 n2 d2) (.slice x3 n3 d3) (.slice x4 n4 d4) mo (.slice x5 n5 d5) (.slice x6 n6 d6) nw (.slice x7 n7 d7) nx dr) 50∧GtV W1 ⟨x1,d1,x2,d2,x3,d3,x4,d4,x5,d5,x6,d6,x7,d7⟩ gm∧Below w.heap.size w W1):=⟨Z0.out.1.below Z0.out.1.under r,Z0.out.2.1.below r,Z0.out.2.2.trans (r.mono Z0.out.2.2.size)⟩
 clear r c3 Z0 M1
 have c4:W1.cell? ⟨A,4,none⟩=some (.slice x2 n2 d2):=Z1.out.1.cell 4 rfl
 go_wp2_with fail
 refine (M2.out _ Z1.out.2.1).mono ?_
 rintro e W2 ⟨rfl,r⟩
 have Z2:Hid (Boxed W2 A (gc kd ex le (.slice x1 n1 d1) (.slice x2 n2 d2) (.slice x3 n3 d3) (.slice x4 n4 d4) mo (.slice x5 n5 d5) (.slice x6 n6 d6) nw (.slice x7 n7 d7) nx dr) 50∧GtV W2 ⟨x1,d1,x2,d2,x3,d3,x4,d4,x5,d5,x6,d6,x7,d7⟩ gm∧Below w.heap.size w W2):=⟨Z1.out.1.below Z1.out.1.under r,Z1.out.2.1.below r,Z1.out.2.2.trans (r.mono Z1.out.2.2.size)⟩
 clear r c4 Z1 M2
 have c5:W2.cell? ⟨A,5,none⟩=some (.slice x3 n3 d3):=Z2.out.1.cell 5 rfl
 go_wp2_with fail
 refine (M3.out _ Z2.out.2.1).mono ?_
 rintro e W3 ⟨rfl,r⟩
 have Z3:Hid (Boxed W3 A (gc kd ex le (.slice x1 n1 d1) (.slice x2 n2 d2) (.slice x3 n3 d3) (.slice x4 n4 d4) mo (.slice x5 n5 d5) (.slice x6 n6 d6) nw (.slice x7 n7 d7) nx dr) 50∧GtV W3 ⟨x1,d1,x2,d2,x3,d3,x4,d4,x5,d5,x6,d6,x7,d7⟩ gm∧Below w.heap.size w W3):=⟨Z2.out.1.below Z2.out.1.under r,Z2.out.2.1.below r,Z2.out.2.2.trans (r.mono Z2.out.2.2.size)⟩
 clear r c5 Z2 M3
 have c6:W3.cell? ⟨A,6,none⟩=some (.slice x4 n4 d4):=Z3.out.1.cell 6 rfl
 go_wp2_with fail
 refine (M4.out _ Z3.out.2.1).mono ?_
 rintro e W4 ⟨rfl,r⟩
 have Z4:Hid (Boxed W4 A (gc kd ex le (.slice x1 n1 d1) (.slice x2 n2 d2) (.slice x3 n3 d3) (.slice x4 n4 d4) mo (.slice x5 n5 d5) (.slice x6 n6 d6) nw (.slice x7 n7 d7) nx dr) 50∧GtV W4 ⟨x1,d1,x2,d2,x3,d3,x4,d4,x5,d5,x6,d6,x7,d7⟩ gm∧Below w.heap.size w W4):=⟨Z3.out.1.below Z3.out.1.under r,Z3.out.2.1.below r,Z3.out.2.2.trans (r.mono Z3.out.2.2.size)⟩
 clear r c6 Z3 M4
 have c7:W4.cell? ⟨A,7,none⟩=some (.int .i64 mo):=Z4.out.1.cell 7 rfl
 have c8:W4.cell? ⟨A,8,none⟩=some (.slice x5 n5 d5):=Z4.out.1.cell 8 rfl
 go_wp2_with fail
 refine (M5.out _ Z4.out.2.1).mono ?_
 rintro e W5 ⟨rfl,r⟩
 have Z5:Hid (Boxed W5 A (gc kd ex le (.slice x1 n1 d1) (.slice x2 n2 d2) (.slice x3 n3 d3) (.slice x4 n4 d4) mo (.slice x5 n5 d5) (.slice x6 n6 d6) nw (.slice x7 n7 d7) nx dr) 50∧GtV W5 ⟨x1,d1,x2,d2,x3,d3,x4,d4,x5,d5,x6,d6,x7,d7⟩ gm∧Below w.heap.size w W5):=⟨Z4.out.1.below Z4.out.1.under r,Z4.out.2.1.below r,Z4.out.2.2.trans (r.mono Z4.out.2.2.size)⟩
 clear r c7 c8 Z4 M5
 have c9:W5.cell? ⟨A,9,none⟩=some (.slice x6 n6 d6):=Z5.out.1.cell 9 rfl
 go_wp2_with fail
 refine (M6.out _ Z5.out.2.1).mono ?_
 rintro e W6 ⟨rfl,r⟩
 have Z6:Hid (Boxed W6 A (gc kd ex le (.slice x1 n1 d1) (.slice x2 n2 d2) (.slice x3 n3 d3) (.slice x4 n4 d4) mo (.slice x5 n5 d5) (.slice x6 n6 d6) nw (.slice x7 n7 d7) nx dr) 50∧GtV W6 ⟨x1,d1,x2,d2,x3,d3,x4,d4,x5,d5,x6,d6,x7,d7⟩ gm∧Below w.heap.size w W6):=⟨Z5.out.1.below Z5.out.1.under r,Z5.out.2.1.below r,Z5.out.2.2.trans (r.mono Z5.out.2.2.size)⟩
 clear r c9 Z5 M6
 have c10:W6.cell? ⟨A,10,none⟩=some (.int .i64 nw):=Z6.out.1.cell 10 rfl
 have c11:W6.cell? ⟨A,11,none⟩=some (.slice x7 n7 d7):=Z6.out.1.cell 11 rfl
 go_wp2_with fail
 refine (M7.out _ Z6.out.2.1).mono ?_
 rintro e W7 ⟨rfl,r⟩
 have Z7:Hid (Boxed W7 A (gc kd ex le (.slice x1 n1 d1) (.slice x2 n2 d2) (.slice x3 n3 d3) (.slice x4 n4 d4) mo (.slice x5 n5 d5) (.slice x6 n6 d6) nw (.slice x7 n7 d7) nx dr) 50∧GtV W7 ⟨x1,d1,x2,d2,x3,d3,x4,d4,x5,d5,x6,d6,x7,d7⟩ gm∧Below w.heap.size w W7):=⟨Z6.out.1.below Z6.out.1.under r,Z6.out.2.1.below r,Z6.out.2.2.trans (r.mono Z6.out.2.2.size)⟩
 clear r c10 c11 Z6 M7
 go_wp2
 go_ret
 exact ⟨rfl,Z7.out.2.2⟩
theorem wpList_load_rowG {P:Program} {ops:Array Oper} {rest:List Oper} {o:Oper} {a:Act} {w:World} {Q:Exit→Act→World→Prop} (hw:Region.wanted o (yielded ops a.tmps)=true) (ty:TypeId) (x:Operand) (ho:o.op = .load ty x)
 (g:Nat) (hx:a.eval x = .pointer (some ⟨g,0,none⟩)) (t:TypeId) (cs:Array Value) (fr:Nat×Nat) (d:TypeDesc) (hg:w.heap[g]? = some (.cells cs t fr))
 (hu:P.underlying ty=some d) (hd:(match d with | .struct _ | .array _ _=>true|_=>false)=true) (hi:(P.info? ty).map (·.size)=some cs.size)
 (h:wpList P ops Q rest (a.put o.dst (.agg cs)) w):wpList P ops Q (o :: rest) a w :=
 wpList_step fun K hK=>by
  rw [if_pos hw]
  exact wp_load_row ty x ho g hx t cs fr d hg hu hd hi (hK _ _ h)
theorem fnExactOut_of (w:World) (impl':∀ (g:Gt) (v:Value) (w2:World),Below w.heap.size w w2→g.big≤1048576→Hid (GtAt w2 v g)→Calls Tryz.prog 8 #[v] w2 fun e w'=>(∃ v',e = .returned (.tuple #[v',.agg #[.int .i64 (g.goI).id,.int .i64 (g.goI).size,.int .i64 (g.goI).tm],.int .i64 (g.goL)])∧GtIn w2.heap.size w'.heap.size w' v' (g.goG))∧Below w2.heap.size w2 w')
 (g:Gt) (x:Ga) (hl:GtLen g) (h:Hid (GtV w x g)) :
 Calls Tryz.prog 3 #[g.val x] w fun e w'=>e = .returned (.bool true)∧Below w.heap.size w w':=by
 have S:=fun (w:World) (h:Hid (GtV w x g))=>szGts 1048576 (by omega) (by omega) g x w hl h
 have hcs:(g.cells x).size=14∧(g.cells x).all (·.oneCell')=true:=⟨Gt.cells_size g x,Gt.cells_one g x⟩
 by_cases hbig:(1048576:Int)-(g.big:Nat)<0
 ·rw [if_pos hbig] at S
  unfold Gt.val at S ⊢
  have K:Hid (∀ w',Below w.heap.size w w'→GtV w' x g):=fun w' q=>h.out.below q
  generalize g.cells x=cs at S hcs ⊢
  have S':Hid _:=S
  obtain ⟨W,hW⟩:∃ W,W=w.alloc (.cells cs 36):=⟨_,rfl⟩
  have X0:Hid (Lies w [Thing.box w.heap.size cs 36] W):=by
   rw [hW]
   exact ⟨⟨Boxed.new _ _ _,trivial⟩,(Below.refl _ _).alloc nlr _⟩
  have HW:Hid (W=_):=hW
  have Hcs:Hid _:=hcs
  clear S hW hcs h hbig
  go_enter Tryz.func3,Tryz.ntmps3
  go_upto_region 2 with fail
  rw [← HW.out]
  clear HW
  go_wp2_with (refine wpList_load_row rfl 36 (.tmp 1) rfl w.heap.size rfl _ _ _ _ (show Boxed _ _ _ _ from X0.out.1.1) Tryz.underlying36 rfl (by rw [Hcs.out.1];kernel_rfl) ?_)
  refine (S'.out _ (K.out _ X0.out.2)).mono ?_
  rintro e w1 ⟨rfl,q⟩
  have X1:Hid (Below w.heap.size w w1):=X0.out.2.trans (q.mono X0.out.2.size)
  clear q
  go_wp2
  go_ret
  exact ⟨rfl,X1.out⟩
 rw [if_neg hbig] at S
 have hB:g.big≤1048576:=by omega
 have TT:∀ w,Hid (GtV w x g)→Calls Tryz.prog 7 #[g.val x] w fun e w'=>(∃ c:Array Value,e = .returned (.agg c)∧(c.size=14∧c.all (·.oneCell')=true)∧GtIn w.heap.size w'.heap.size w' (.agg c) g)∧Below w.heap.size w w':=fun w h=>(toGts g x w hB h).mono fun e w' hh=>by
  obtain ⟨⟨v,rfl,hi⟩,hb⟩:=hh
  obtain ⟨x',rfl⟩:=hi.cells
  exact ⟨⟨_,rfl,⟨Gt.cells_size g x',Gt.cells_one g x'⟩,hi⟩,hb⟩
 have hXB:(g.goG).big≤1048576:=Gt.goG_big
 obtain ⟨X,hXe⟩:∃ X,g.goG=X:=⟨_,rfl⟩
 obtain ⟨u0,hu0⟩:∃ u,g.goI=u:=⟨_,rfl⟩
 obtain ⟨u1,hu1⟩:∃ u,g.goL=u:=⟨_,rfl⟩
 obtain ⟨i0,i1,i2⟩:=u0
 have C:∀ v w,Hid (GtAt w v g)→Calls Tryz.prog 6 #[v] w fun e w'=>(∃ c:Array Value,e = .returned (.tuple #[.agg c,.agg (ic i0 i1 i2),.int .i64 u1])∧(c.size=14∧c.all (·.oneCell')=true)∧GtLie w.heap.size w'.heap.size w' (.agg c) X)∧Below w.heap.size w w':=fun v w h=>(specOut g v w hB h).mono fun e w' hh=>by
  rw [hXe,hu0,hu1] at hh
  obtain ⟨⟨v,rfl,hi⟩,hb⟩:=hh
  obtain ⟨x',rfl⟩:=hi.cells
  exact ⟨⟨_,rfl,⟨Gt.cells_size X x',Gt.cells_one X x'⟩,hi⟩,hb⟩
 have D:∀ v w2,Below w.heap.size w w2→Hid (GtAt w2 v g)→Calls Tryz.prog 8 #[v] w2 fun e w'=>(∃ c:Array Value,e = .returned (.tuple #[.agg c,.agg (ic i0 i1 i2),.int .i64 u1])∧(c.size=14∧c.all (·.oneCell')=true)∧GtIn w2.heap.size w'.heap.size w' (.agg c) X)∧Below w2.heap.size w2 w':=fun v w2 hb2 h=>(impl' g v w2 hb2 hB h).mono fun e w' hh=>by
  rw [hXe,hu0,hu1] at hh
  obtain ⟨⟨v,rfl,hi⟩,hb⟩:=hh
  obtain ⟨x',rfl⟩:=hi.cells
  exact ⟨⟨_,rfl,⟨Gt.cells_size X x',Gt.cells_one X x'⟩,hi⟩,hb⟩
 rw [hXe] at hXB
 have ER:=fun v1 v2 w h1 h2=>eqGts v1 v2 g w hB h1 h2
 have EX:=fun v1 v2 w h1 h2=>eqGts v1 v2 X w hXB h1 h2
 have MR:∀ b t v w,Hid (GtIn b t w v g)→Calls Tryz.prog 11 #[v,.int .i64 1] w fun e w'=>e = .returned (.int .i64 (g.k7 1))∧Span b t w w':=fun b t v w h=>(markGts 1 (by omega) (by omega) b t v g w hB h).mono fun _ _ hh=>⟨hh.1,hh.2.2⟩
 have MX:=fun b t v w h=>markGts 1 (by omega) (by omega) b t v X w hXB h
 have HX:=fun v w h=>heldGts 1 (by omega) (by omega) v X w hXB h
 have m0:¬ g.k7 1<0:=by have:=(Gt.ks hB (s:=1) (by omega) (by omega)).2.2.2.2.2.2;omega
 have m1:¬ X.k7 1<0:=by have:=(Gt.ks hXB (s:=1) (by omega) (by omega)).2.2.2.2.2.2;omega
 generalize g.k7 1=kr at MR m0
 generalize X.k7 1=kx at MX HX m1
 obtain ⟨Xm,hXm⟩:∃ Xm,X.mk' 1=Xm:=⟨_,rfl⟩
 rw [hXm] at MX HX
 have hb0:¬ (1048576:Int)-(g.big:Nat)<0:=hbig
 generalize (1048576:Int)-(g.big:Nat)=left at S hb0
 have K:Hid (∀ w',Below w.heap.size w w'→GtV w' x g):=fun w' q=>h.out.below q
 unfold Gt.val at S TT ⊢
 generalize g.cells x=cs at S TT hcs ⊢
 have EI:=fun w=>eqIt ⟨i0,i1,i2⟩ w
 unfold It.val at EI
 have S':Hid _:=S
 have TT':Hid _:=TT
 have C':Hid _:=C
 have D':Hid _:=D
 have ER':Hid _:=ER
 have EX':Hid _:=EX
 have MR':Hid _:=MR
 have MX':Hid _:=MX
 have HX':Hid _:=HX
 have EI':Hid _:=EI
 obtain ⟨W,hW⟩:∃ W,W=w.alloc (.cells cs 36):=⟨_,rfl⟩
 have X0:Hid (Lies w [Thing.box w.heap.size cs 36] W):=by
  rw [hW]
  exact ⟨⟨Boxed.new _ _ _,trivial⟩,(Below.refl _ _).alloc nlr _⟩
 have HW:Hid (W=_):=hW
 have Hcs:Hid _:=hcs
 clear S TT C D ER EX MR MX HX EI hbig hB hXB hXe hu0 hu1 hXm hl h hcs hW
 go_enter Tryz.func3,Tryz.ntmps3
 go_upto_region 2 with fail
 rw [← HW.out]
 clear HW
 go_wp2_with (refine wpList_load_row rfl 36 (.tmp 1) rfl w.heap.size rfl _ _ _ _ (show Boxed _ _ _ _ from X0.out.1.1) Tryz.underlying36 rfl (by rw [Hcs.out.1];kernel_rfl) ?_)
 refine (S'.out _ (K.out _ X0.out.2)).mono ?_
 rintro e w1 ⟨rfl,q⟩
 have Z1:Hid (Lies w [Thing.box w.heap.size cs 36] w1):=X0.out.below q
 clear q X0 S'
 go_upto_region 5 with fail
 go_wp2_with (refine wpList_load_row rfl 36 (.tmp 1) rfl w.heap.size rfl _ _ _ _ (show Boxed _ _ _ _ from Z1.out.1.1) Tryz.underlying36 rfl (by rw [Hcs.out.1];kernel_rfl) ?_)
 refine (TT'.out _ (K.out _ Z1.out.2)).mono ?_
 rintro e wAZ2 ⟨⟨cA,rfl,-,iA⟩,q⟩
 have Z2:Hid (Lies w [Thing.box w.heap.size cs 36] wAZ2):=Z1.out.below q
 have AT:Hid (GtAt wAZ2 (.agg cA) g):=iA.at
 clear q iA Z1
 go_wp2_with fail
 refine (C'.out _ _ AT).mono ?_
 rintro e wY ⟨⟨c0,rfl,hc,iY⟩,q⟩
 have Hc0:Hid (c0.size=14∧c0.all (·.oneCell')=true):=hc
 clear hc AT
 obtain ⟨WA,hWA⟩:∃ z,z=(wY.alloc (.cells gz 50)).alloc (.cells zi 52):=⟨_,rfl⟩
 have bA:Hid (Below wY.heap.size wY WA):=by rw [hWA];exact ((Below.refl _ _).alloc nlr _).alloc (by simp) _
 have N1:Hid (Boxed WA wY.heap.size gz 50∧Boxed WA (wY.heap.size+1) zi 52):=by
  rw [hWA]
  refine ⟨(Boxed.new wY _ _).more _,?_⟩
  have:=Boxed.new (wY.alloc (.cells gz 50)) zi 52
  simpa using this
 have HWA:Hid (WA=_):=hWA
 clear hWA
 have N2:Hid (Boxed (WA.setRow wY.heap.size c0) (wY.heap.size+1) zi 52):=(setRow_other _ _ _ _ (by omega)).trans N1.out.2
 go_upto_region 6 with (first|(rw [← HWA.out];refine wpList_store_row rfl 50 (.tmp 4) (.tmp 26) rfl wY.heap.size c0 rfl rfl _ _ N1.out.1 (by rw [Hc0.out.1];kernel_rfl) (by rw [Hc0.out.1];rfl) Hc0.out.2 ?_)|(refine wpList_store_row rfl 52 (.tmp 5) (.tmp 27) rfl (wY.heap.size+1) (ic i0 i1 i2) rfl rfl _ _ N2.out (by kernel_rfl) rfl (by simp [Value.oneCell']) ?_))
 try simp only [Act.put]
 have bN:Below wY.heap.size wY ((WA.setRow wY.heap.size c0).setRow (wY.heap.size+1) (ic i0 i1 i2)):=below_setRow (below_setRow bA.out nlr _) (by omega) _
 have Z3:Hid (Lies w [Thing.box w.heap.size cs 36,GtLie.th wAZ2.heap.size wY.heap.size (.agg c0) X,Thing.box wY.heap.size c0 50,Thing.box (wY.heap.size+1) (ic i0 i1 i2) 52] ((WA.setRow wY.heap.size c0).setRow (wY.heap.size+1) (ic i0 i1 i2))∧wAZ2.heap.size≤wY.heap.size∧wY.heap.size+2≤((WA.setRow wY.heap.size c0).setRow (wY.heap.size+1) (ic i0 i1 i2)).heap.size∧w.heap.size+1≤wAZ2.heap.size):=⟨(Z2.out.below q).more bN ⟨⟨GtLie.below iY bN,bN.size⟩,(setRow_other _ _ _ _ (by omega)).trans (setRow_heap _ _ _ _ _ _ N1.out.1),setRow_heap _ _ _ _ _ _ N2.out,trivial⟩,q.size,Boxed.under (setRow_heap _ _ _ _ _ _ N2.out),Boxed.under (show Boxed _ w.heap.size _ _ from Z2.out.1.1)⟩
 clear bN q iY N1 N2 HWA bA Z2
 generalize ((WA.setRow wY.heap.size c0).setRow (wY.heap.size+1) (ic i0 i1 i2))=w0 at Z3 ⊢
 generalize wY.heap.size=t0 at Z3 ⊢
 generalize wAZ2.heap.size=b0 at Z3
 clear WA
 have Z3A:Hid (Lies w [Thing.box w.heap.size cs 36,GtLie.th b0 t0 (.agg c0) X,Thing.box t0 c0 50,Thing.box (t0+1) (ic i0 i1 i2) 52] w0):=Z3.out.1
 have O0:Hid (b0≤t0∧t0+2≤w0.heap.size∧w.heap.size+1≤b0):=Z3.out.2
 clear Z3
 go_wp2_with (refine wpList_load_row rfl 36 (.tmp 1) rfl w.heap.size rfl _ _ _ _ (show Boxed _ _ _ _ from Z3A.out.1.1) Tryz.underlying36 rfl (by rw [Hcs.out.1];kernel_rfl) ?_)
 refine (TT'.out _ (K.out _ Z3A.out.2)).mono ?_
 rintro e wY ⟨⟨cx,rfl,hc,iY⟩,q⟩
 have Hcx:Hid (cx.size=14∧cx.all (·.oneCell')=true):=hc
 clear hc
 have N:Hid (Boxed (wY.alloc (.cells gz 50)) wY.heap.size gz 50):=Boxed.new _ _ _
 go_upto_region 7 with (refine wpList_store_row rfl 50 (.tmp 7) (.tmp 30) rfl wY.heap.size cx rfl rfl _ _ N.out (by rw [Hcx.out.1];kernel_rfl) (by rw [Hcx.out.1];rfl) Hcx.out.2 ?_)
 try simp only [Act.put]
 have bN:Below wY.heap.size wY ((wY.alloc (.cells gz 50)).setRow wY.heap.size cx):=below_setRow ((Below.refl _ _).alloc nlr _) nlr _
 have Z4:Hid (Lies w [Thing.box w.heap.size cs 36,GtLie.th b0 t0 (.agg c0) X,Thing.box t0 c0 50,Thing.box (t0+1) (ic i0 i1 i2) 52,GtIn.th w0.heap.size wY.heap.size (.agg cx) g,Thing.box wY.heap.size cx 50] ((wY.alloc (.cells gz 50)).setRow wY.heap.size cx)∧w0.heap.size≤wY.heap.size∧wY.heap.size+1≤((wY.alloc (.cells gz 50)).setRow wY.heap.size cx).heap.size∧w.heap.size+1≤w0.heap.size):=⟨(Z3A.out.below q).more bN ⟨⟨GtIn.below iY bN,bN.size⟩,setRow_heap _ _ _ _ _ _ N.out,trivial⟩,q.size,by rw [size_setRow];simp,Boxed.under (show Boxed _ w.heap.size _ _ from Z3A.out.1.1)⟩
 clear bN q iY N Z3A
 generalize ((wY.alloc (.cells gz 50)).setRow wY.heap.size cx)=wx at Z4 ⊢
 generalize wY.heap.size=tx at Z4 ⊢
 generalize w0.heap.size=bx at Z4 O0
 have Z4A:Hid (Lies w [Thing.box w.heap.size cs 36,GtLie.th b0 t0 (.agg c0) X,Thing.box t0 c0 50,Thing.box (t0+1) (ic i0 i1 i2) 52,GtIn.th bx tx (.agg cx) g,Thing.box tx cx 50] wx):=Z4.out.1
 have Ox:Hid (bx≤tx∧tx+1≤wx.heap.size∧w.heap.size+1≤bx):=Z4.out.2
 clear Z4
 have OO:Hid (_∧_):=⟨O0.out,Ox.out⟩
 clear O0 Ox
 go_wp2_with (refine wpList_load_row rfl 50 (.tmp 7) rfl tx rfl _ _ _ _ (show Boxed _ _ _ _ from Z4A.out.1.2.2.2.2.2.1) Tryz.underlying50 rfl (by rw [Hcx.out.1];kernel_rfl) ?_)
 refine (D'.out _ _ Z4A.out.2 (GtIn.at (show GtIn _ _ _ _ _ from Z4A.out.1.2.2.2.2.1.1))).mono ?_
 rintro e wY ⟨⟨c2,rfl,hc,iY⟩,q⟩
 have Hc2:Hid (c2.size=14∧c2.all (·.oneCell')=true):=hc
 clear hc
 obtain ⟨WA,hWA⟩:∃ z,z=(wY.alloc (.cells gz 50)).alloc (.cells zi 52):=⟨_,rfl⟩
 have bA:Hid (Below wY.heap.size wY WA):=by rw [hWA];exact ((Below.refl _ _).alloc nlr _).alloc (by simp) _
 have N1:Hid (Boxed WA wY.heap.size gz 50∧Boxed WA (wY.heap.size+1) zi 52):=by
  rw [hWA]
  refine ⟨(Boxed.new wY _ _).more _,?_⟩
  have:=Boxed.new (wY.alloc (.cells gz 50)) zi 52
  simpa using this
 have HWA:Hid (WA=_):=hWA
 clear hWA
 have N2:Hid (Boxed (WA.setRow wY.heap.size c2) (wY.heap.size+1) zi 52):=(setRow_other _ _ _ _ (by omega)).trans N1.out.2
 go_upto_region 8 with (first|(rw [← HWA.out];refine wpList_store_row rfl 50 (.tmp 8) (.tmp 34) rfl wY.heap.size c2 rfl rfl _ _ N1.out.1 (by rw [Hc2.out.1];kernel_rfl) (by rw [Hc2.out.1];rfl) Hc2.out.2 ?_)|(refine wpList_store_row rfl 52 (.tmp 9) (.tmp 35) rfl (wY.heap.size+1) (ic i0 i1 i2) rfl rfl _ _ N2.out (by kernel_rfl) rfl (by simp [Value.oneCell']) ?_))
 try simp only [Act.put]
 have bN:Below wY.heap.size wY ((WA.setRow wY.heap.size c2).setRow (wY.heap.size+1) (ic i0 i1 i2)):=below_setRow (below_setRow bA.out nlr _) (by omega) _
 have Z5:Hid (Lies w [Thing.box w.heap.size cs 36,GtLie.th b0 t0 (.agg c0) X,Thing.box t0 c0 50,Thing.box (t0+1) (ic i0 i1 i2) 52,GtIn.th bx tx (.agg cx) g,Thing.box tx cx 50,GtIn.th wx.heap.size wY.heap.size (.agg c2) X,Thing.box wY.heap.size c2 50,Thing.box (wY.heap.size+1) (ic i0 i1 i2) 52] ((WA.setRow wY.heap.size c2).setRow (wY.heap.size+1) (ic i0 i1 i2))∧wx.heap.size≤wY.heap.size∧wY.heap.size+2≤((WA.setRow wY.heap.size c2).setRow (wY.heap.size+1) (ic i0 i1 i2)).heap.size∧w.heap.size+1≤wx.heap.size):=⟨(Z4A.out.below q).more bN ⟨⟨GtIn.below iY bN,bN.size⟩,(setRow_other _ _ _ _ (by omega)).trans (setRow_heap _ _ _ _ _ _ N1.out.1),setRow_heap _ _ _ _ _ _ N2.out,trivial⟩,q.size,Boxed.under (setRow_heap _ _ _ _ _ _ N2.out),Boxed.under (show Boxed _ w.heap.size _ _ from Z4A.out.1.1)⟩
 clear bN q iY N1 N2 HWA bA Z4A
 generalize ((WA.setRow wY.heap.size c2).setRow (wY.heap.size+1) (ic i0 i1 i2))=w2 at Z5 ⊢
 generalize wY.heap.size=t2 at Z5 ⊢
 generalize wx.heap.size=b2 at Z5 OO
 clear WA
 have Z5A:Hid (Lies w [Thing.box w.heap.size cs 36,GtLie.th b0 t0 (.agg c0) X,Thing.box t0 c0 50,Thing.box (t0+1) (ic i0 i1 i2) 52,GtIn.th bx tx (.agg cx) g,Thing.box tx cx 50,GtIn.th b2 t2 (.agg c2) X,Thing.box t2 c2 50,Thing.box (t2+1) (ic i0 i1 i2) 52] w2):=Z5.out.1
 have O2:Hid (b2≤t2∧t2+2≤w2.heap.size∧w.heap.size+1≤b2):=Z5.out.2
 clear Z5
 have O9:Hid (_∧_):=And.intro OO.out (O2.out)
 clear O2 OO
 go_wp2_with (first|(refine wpList_load_row rfl 50 (.tmp 8) rfl t2 rfl _ _ _ _ (show Boxed _ _ _ _ from Z5A.out.1.2.2.2.2.2.2.2.1) Tryz.underlying50 rfl (by rw [Hc2.out.1];kernel_rfl) ?_)|(refine wpList_load_row rfl 50 (.tmp 4) rfl t0 rfl _ _ _ _ (show Boxed _ _ _ _ from Z5A.out.1.2.2.1) Tryz.underlying50 rfl (by rw [Hc0.out.1];kernel_rfl) ?_))
 refine (EX'.out _ _ _ (GtIn.at (show GtIn _ _ _ _ _ from Z5A.out.1.2.2.2.2.2.2.1.1)) (GtLie.at (show GtLie _ _ _ _ _ from Z5A.out.1.2.1.1))).mono ?_
 rintro e wE5 ⟨rfl,q⟩
 have Z6:Hid (Lies w [Thing.box w.heap.size cs 36,GtLie.th b0 t0 (.agg c0) X,Thing.box t0 c0 50,Thing.box (t0+1) (ic i0 i1 i2) 52,GtIn.th bx tx (.agg cx) g,Thing.box tx cx 50,GtIn.th b2 t2 (.agg c2) X,Thing.box t2 c2 50,Thing.box (t2+1) (ic i0 i1 i2) 52] wE5):=Z5A.out.below q
 clear q Z5A
 have j20:wE5.cell? ⟨t2+1,0,none⟩=_:=Boxed.cell (show Boxed _ _ _ _ from Z6.out.1.2.2.2.2.2.2.2.2.1) 0 rfl
 have j21:wE5.cell? ⟨t2+1,1,none⟩=_:=Boxed.cell (show Boxed _ _ _ _ from Z6.out.1.2.2.2.2.2.2.2.2.1) 1 rfl
 have j22:wE5.cell? ⟨t2+1,2,none⟩=_:=Boxed.cell (show Boxed _ _ _ _ from Z6.out.1.2.2.2.2.2.2.2.2.1) 2 rfl
 have j00:wE5.cell? ⟨t0+1,0,none⟩=_:=Boxed.cell (show Boxed _ _ _ _ from Z6.out.1.2.2.2.1) 0 rfl
 have j01:wE5.cell? ⟨t0+1,1,none⟩=_:=Boxed.cell (show Boxed _ _ _ _ from Z6.out.1.2.2.2.1) 1 rfl
 have j02:wE5.cell? ⟨t0+1,2,none⟩=_:=Boxed.cell (show Boxed _ _ _ _ from Z6.out.1.2.2.2.1) 2 rfl
 go_wp2_with fail
 refine (EI'.out _).mono ?_
 rintro e wI6 ⟨rfl,q⟩
 clear j20 j21 j22 j00 j01 j02
 have Z7:Hid (Lies w [Thing.box w.heap.size cs 36,GtLie.th b0 t0 (.agg c0) X,Thing.box t0 c0 50,Thing.box (t0+1) (ic i0 i1 i2) 52,GtIn.th bx tx (.agg cx) g,Thing.box tx cx 50,GtIn.th b2 t2 (.agg c2) X,Thing.box t2 c2 50,Thing.box (t2+1) (ic i0 i1 i2) 52] wI6):=Z6.out.below q
 clear q Z6
 go_upto_region 10 with fail
 go_cut [56] (fun s wc=>Hid (s = .bool false∧Lies w [Thing.box w.heap.size cs 36,GtLie.th b0 t0 (.agg c0) X,Thing.box t0 c0 50,Thing.box (t0+1) (ic i0 i1 i2) 52,GtIn.th bx tx (.agg cx) g,Thing.box tx cx 50,GtIn.th b2 t2 (.agg c2) X,Thing.box t2 c2 50,Thing.box (t2+1) (ic i0 i1 i2) 52] wc))
 case first =>
  go_wp2_with fail
  refine region_lists (G:=Array Value) (by kernel_rfl) (by kernel_rfl) (by kernel_rfl) (fun _=>99) (fun (_:Nat→Bool) (_:Array Value) (x:World)=>Below wI6.heap.size wI6 x) (fun i (y:Array Value) x y' x'=>(i≠2→y'=y)∧Below x.heap.size x x') (fun kk y x u=>([fun _ _ u=>u = .agg cx,fun _ _ u=>u = .agg cs,fun (y:Array Value) x u=>u = .agg y∧GtAt x (.agg y) g,fun _ _ u=>u = .bool true,fun _ _ u=>u = .bool false]:List (Array Value→World→Value→Prop)).getD kk (fun _ _ _=>True) y x u) ?hR #[] ?h0 ?step ?last
  case hR =>
   intro i' j' y y' x x' u hi1 hj1 hne hu h1 h2 hp hr
   have hj':j'<5:=hj1
   have hcases:j'=0∨j'=1∨j'=2∨j'=3∨j'=4:=by omega
   rcases hcases with rfl|rfl|rfl|rfl|rfl
   ·exact hp
   ·exact hp
   ·obtain ⟨e,r⟩:=hp
    have ey:=hr.1 hne
    subst ey
    exact ⟨e,r.below hr.2⟩
   ·exact hp
   ·exact hp
  case h0=>exact (Below.refl _ _).drew
  case step =>
   intro q o hq ho L a y x hLi hwt hre hkp hI hp
   have LX:=Z7.out.below hI
   have sx:a.eval (.tmp 7) = .pointer (some ⟨tx,0,none⟩):=by have h2:a.tmps.getD 7 undef = .pointer (some ⟨tx,0,none⟩):=hkp.slot 7 (by kernel_rfl);simpa [Act.eval] using h2
   have sp:a.eval (.tmp 1) = .pointer (some ⟨w.heap.size,0,none⟩):=by have h2:a.tmps.getD 1 undef = .pointer (some ⟨w.heap.size,0,none⟩):=hkp.slot 1 (by kernel_rfl);simpa [Act.eval] using h2
   have hq':q<5:=hq
   have hcases:q=0∨q=1∨q=2∨q=3∨q=4:=by omega
   rcases hcases with rfl|rfl|rfl|rfl|rfl
   ·cases ho
    exact ⟨wno rfl,wp_load_row 50 (.tmp 7) rfl tx sx _ _ _ _ (show Boxed _ _ _ _ from LX.1.2.2.2.2.2.1) Tryz.underlying50 rfl (by rw [Hcx.out.1];kernel_rfl) ⟨_,y,rfl,⟨fun _=>rfl,Below.refl _ _⟩,hI,fun u hu=>hu (fun h=>by cases h)⟩⟩
   ·cases ho
    exact ⟨wno rfl,wp_load_row 36 (.tmp 1) rfl w.heap.size sp _ _ _ _ (show Boxed _ _ _ _ from LX.1.1) Tryz.underlying36 rfl (by rw [Hcs.out.1];kernel_rfl) ⟨_,y,rfl,⟨fun _=>rfl,Below.refl _ _⟩,hI,fun u hu=>hu (fun h=>by cases h)⟩⟩
   ·cases ho
    have e1:a.tmps.getD 53 undef = .agg cs:=hp 1 (od (by kernel_rfl)) (.inr (by decide))
    have q1:a.tmps[53]?.getD undef = .agg cs:=by simpa using e1
    refine ⟨wno rfl,op_callR (by simp [execOp,resolve,Deferred.ofValue,invoke,Act.eval,q1]) (TT'.out x (K.out _ LX.2)) ?_⟩
    rintro e z ⟨⟨cA,rfl,-,iA⟩,qb⟩
    exact ⟨_,rfl,_,cA,rfl,⟨fun h=>absurd rfl h,qb⟩,hI.trans (qb.mono hI.size),fun u hu=>⟨hu (fun h=>by cases h),iA.at⟩⟩
   ·cases ho
    have e0:a.tmps.getD 52 undef = .agg cx:=hp 0 (od (by kernel_rfl)) (.inr (by decide))
    have q0:a.tmps[52]?.getD undef = .agg cx:=by simpa using e0
    have e2:a.tmps.getD 54 undef = .agg y:=(hp 2 (od (by kernel_rfl)) (.inr (by decide))).1
    have q2:a.tmps[54]?.getD undef = .agg y:=by simpa using e2
    have at2:GtAt x (.agg y) g:=(hp 2 (od (by kernel_rfl)) (.inr (by decide))).2
    refine ⟨wno rfl,op_callR (by simp [execOp,resolve,Deferred.ofValue,invoke,Act.eval,q0,q2]) (ER'.out _ _ x (GtIn.at (show GtIn _ _ _ _ _ from LX.1.2.2.2.2.1.1)) at2) ?_⟩
    rintro e z ⟨rfl,qb⟩
    exact ⟨_,rfl,_,y,rfl,⟨fun _=>rfl,qb⟩,hI.trans (qb.mono hI.size),fun u hu=>hu (fun h=>by cases h)⟩
   ·cases ho
    have e3:a.tmps.getD 55 undef = .bool true:=hp 3 (od (by kernel_rfl)) (.inr (by decide))
    have q3:a.tmps[55]?.getD undef = .bool true:=by simpa using e3
    refine ⟨wno rfl,Oper.wp_mono (K:=fun a'' w''=>a''=a.put (some 56) (.bool false)∧w''=x) ?_ ?_⟩
    ·rintro _ _ ⟨rfl,rfl⟩
     exact ⟨_,y,rfl,⟨fun _=>rfl,Below.refl _ _⟩,hI,fun u hu=>hu (fun h=>by cases h)⟩
    ·unfold Oper.wp
     simp [go_sem,q3]
  case last =>
  intro L a y x hall hkp hI hp
  have e4:a.tmps.getD 56 undef = .bool false:=hp 4 (by decide) (by decide)
  have Fin:Hid (a.tmps.getD 56 undef = .bool false∧Lies w [Thing.box w.heap.size cs 36,GtLie.th b0 t0 (.agg c0) X,Thing.box t0 c0 50,Thing.box (t0+1) (ic i0 i1 i2) 52,GtIn.th bx tx (.agg cx) g,Thing.box tx cx 50,GtIn.th b2 t2 (.agg c2) X,Thing.box t2 c2 50,Thing.box (t2+1) (ic i0 i1 i2) 52] x):=⟨e4,Z7.out.below hI⟩
  have ha:=hkp.pick [true,true,true,true,true,true,true,true,true,true,true,true,true,true,true,true,true,true,true,true,true,true,true,true,true,true,true,true,true,true,true,true,true,true,true,true,true,true,true,true,true,true,true,true,true,true,true,true,true,true,true,true,false,false,false,false,false,true,true,true,true,true,true,true,true,true,true,true,true,true,true,true,true,true,true,true,true,true,true,true,true,true,true,true,true,true,true,true,true,true,true,true,true,true,true,true,true,true,true,true,true,true,true,true,true,true,true,true,true,true,true,true,true,true,true,true,true,true,true,true] (by kernel_rfl)
  simp only [pickS] at ha
  clear hp hkp hI hall e4
  generalize a.tmps.getD 52 undef=y52 at ha
  generalize a.tmps.getD 53 undef=y53 at ha
  generalize a.tmps.getD 54 undef=y54 at ha
  generalize a.tmps.getD 55 undef=y55 at ha
  generalize a.tmps.getD 56 undef=y56 at ha Fin
  rw [ha]
  clear ha
  go_wp2_with fail
  go_meet
  exact Fin.out
 case rest =>
 obtain ⟨rfl,hP⟩:=hcut.out
 obtain ⟨wF,rfl⟩:∃ wF,wF=wc:=⟨_,rfl⟩
 have Z8:Hid (Lies w [Thing.box w.heap.size cs 36,GtLie.th b0 t0 (.agg c0) X,Thing.box t0 c0 50,Thing.box (t0+1) (ic i0 i1 i2) 52,GtIn.th bx tx (.agg cx) g,Thing.box tx cx 50,GtIn.th b2 t2 (.agg c2) X,Thing.box t2 c2 50,Thing.box (t2+1) (ic i0 i1 i2) 52] wF):=hP
 clear hcut hP Z7
 go_upto_region 13 with fail
 go_wp2_with (refine wpList_load_row rfl 50 (.tmp 7) rfl tx rfl _ _ _ _ (show Boxed _ _ _ _ from Z8.out.1.2.2.2.2.2.1) Tryz.underlying50 rfl (by rw [Hcx.out.1];kernel_rfl) ?_)
 refine (MR'.out bx tx _ _ (show GtIn _ _ _ _ _ from Z8.out.1.2.2.2.2.1.1)).mono ?_
 rintro e wG ⟨rfl,q⟩
 have Z9:Hid (Lies w [Thing.box w.heap.size cs 36,GtLie.th b0 t0 (.agg c0) X,Thing.box t0 c0 50,Thing.box (t0+1) (ic i0 i1 i2) 52,GtIn.th b2 t2 (.agg c2) X,Thing.box t2 c2 50,Thing.box (t2+1) (ic i0 i1 i2) 52] wG):=by
  have oo:=O9.out
  have k0:Lies w [Thing.box w.heap.size cs 36,GtLie.th b0 t0 (.agg c0) X,Thing.box t0 c0 50,Thing.box (t0+1) (ic i0 i1 i2) 52,GtIn.th b2 t2 (.agg c2) X,Thing.box t2 c2 50,Thing.box (t2+1) (ic i0 i1 i2) 52] wF:=⟨⟨Z8.out.1.1,Z8.out.1.2.1,Z8.out.1.2.2.1,Z8.out.1.2.2.2.1,Z8.out.1.2.2.2.2.2.2.1,Z8.out.1.2.2.2.2.2.2.2.1,Z8.out.1.2.2.2.2.2.2.2.2.1,trivial⟩,Z8.out.2⟩
  exact k0.span q ⟨(show w.heap.size+1≤bx∨tx≤w.heap.size by omega),(show t0≤bx∨tx≤b0 by omega),(show t0+1≤bx∨tx≤t0 by omega),(show (t0+1)+1≤bx∨tx≤(t0+1) by omega),(show t2≤bx∨tx≤b2 by omega),(show t2+1≤bx∨tx≤t2 by omega),(show (t2+1)+1≤bx∨tx≤(t2+1) by omega),trivial⟩ (by omega)
 clear q Z8
 go_upto_region 14 with fail
 go_wp2_with (first|(refine wpList_load_rowG (by simp [Region.wanted,yielded,Act.put]<;>omega) 50 (.tmp 8) rfl t2 rfl _ _ _ _ (show Boxed _ _ _ _ from Z9.out.1.2.2.2.2.2.1) Tryz.underlying50 rfl (by rw [Hc2.out.1];kernel_rfl) ?_)|(refine wpList_load_rowG (by simp [Region.wanted,yielded,Act.put]<;>omega) 50 (.tmp 4) rfl t0 rfl _ _ _ _ (show Boxed _ _ _ _ from Z9.out.1.2.2.1) Tryz.underlying50 rfl (by rw [Hc0.out.1];kernel_rfl) ?_))
 refine (EX'.out _ _ _ (GtIn.at (show GtIn _ _ _ _ _ from Z9.out.1.2.2.2.2.1.1)) (GtLie.at (show GtLie _ _ _ _ _ from Z9.out.1.2.1.1))).mono ?_
 rintro e wE9 ⟨rfl,q⟩
 have Z10:Hid (Lies w [Thing.box w.heap.size cs 36,GtLie.th b0 t0 (.agg c0) X,Thing.box t0 c0 50,Thing.box (t0+1) (ic i0 i1 i2) 52,GtIn.th b2 t2 (.agg c2) X,Thing.box t2 c2 50,Thing.box (t2+1) (ic i0 i1 i2) 52] wE9):=Z9.out.below q
 clear q Z9
 have j20:wE9.cell? ⟨t2+1,0,none⟩=_:=Boxed.cell (show Boxed _ _ _ _ from Z10.out.1.2.2.2.2.2.2.1) 0 rfl
 have j21:wE9.cell? ⟨t2+1,1,none⟩=_:=Boxed.cell (show Boxed _ _ _ _ from Z10.out.1.2.2.2.2.2.2.1) 1 rfl
 have j22:wE9.cell? ⟨t2+1,2,none⟩=_:=Boxed.cell (show Boxed _ _ _ _ from Z10.out.1.2.2.2.2.2.2.1) 2 rfl
 have j00:wE9.cell? ⟨t0+1,0,none⟩=_:=Boxed.cell (show Boxed _ _ _ _ from Z10.out.1.2.2.2.1) 0 rfl
 have j01:wE9.cell? ⟨t0+1,1,none⟩=_:=Boxed.cell (show Boxed _ _ _ _ from Z10.out.1.2.2.2.1) 1 rfl
 have j02:wE9.cell? ⟨t0+1,2,none⟩=_:=Boxed.cell (show Boxed _ _ _ _ from Z10.out.1.2.2.2.1) 2 rfl
 go_wp2_with fail
 refine (EI'.out _).mono ?_
 rintro e wI10 ⟨rfl,q⟩
 clear j20 j21 j22 j00 j01 j02
 have Z11:Hid (Lies w [Thing.box w.heap.size cs 36,GtLie.th b0 t0 (.agg c0) X,Thing.box t0 c0 50,Thing.box (t0+1) (ic i0 i1 i2) 52,GtIn.th b2 t2 (.agg c2) X,Thing.box t2 c2 50,Thing.box (t2+1) (ic i0 i1 i2) 52] wI10):=Z10.out.below q
 clear q Z10
 go_upto_region 17 with fail
 go_wp2_with (refine wpList_load_row rfl 50 (.tmp 8) rfl t2 rfl _ _ _ _ (show Boxed _ _ _ _ from Z11.out.1.2.2.2.2.2.1) Tryz.underlying50 rfl (by rw [Hc2.out.1];kernel_rfl) ?_)
 refine (MX'.out b2 t2 _ _ (show GtIn _ _ _ _ _ from Z11.out.1.2.2.2.2.1.1)).mono ?_
 rintro e wJ ⟨rfl,m,q⟩
 have Z12:Hid (Lies w [Thing.box w.heap.size cs 36,GtLie.th b0 t0 (.agg c0) X,Thing.box t0 c0 50,Thing.box (t0+1) (ic i0 i1 i2) 52,Thing.box t2 c2 50,Thing.box (t2+1) (ic i0 i1 i2) 52,GtIn.th b2 t2 (.agg c2) Xm] wJ):=by
  have oo:=O9.out
  have k0:Lies w [Thing.box w.heap.size cs 36,GtLie.th b0 t0 (.agg c0) X,Thing.box t0 c0 50,Thing.box (t0+1) (ic i0 i1 i2) 52,Thing.box t2 c2 50,Thing.box (t2+1) (ic i0 i1 i2) 52] wI10:=⟨⟨Z11.out.1.1,Z11.out.1.2.1,Z11.out.1.2.2.1,Z11.out.1.2.2.2.1,Z11.out.1.2.2.2.2.2.1,Z11.out.1.2.2.2.2.2.2.1,trivial⟩,Z11.out.2⟩
  have k1:=k0.span q ⟨(show w.heap.size+1≤b2∨t2≤w.heap.size by omega),(show t0≤b2∨t2≤b0 by omega),(show t0+1≤b2∨t2≤t0 by omega),(show (t0+1)+1≤b2∨t2≤(t0+1) by omega),(show t2+1≤b2∨t2≤t2 by omega),(show (t2+1)+1≤b2∨t2≤(t2+1) by omega),trivial⟩ (by omega)
  exact ⟨k1.1.app (us:=[GtIn.th b2 t2 (.agg c2) Xm]) ⟨⟨m,Nat.le_trans (show t2≤wI10.heap.size from Z11.out.1.2.2.2.2.1.2) q.size⟩,trivial⟩,k1.2⟩
 clear q m Z11
 go_upto_region 19 with fail
 go_wp2_with (refine wpList_load_row rfl 50 (.tmp 8) rfl t2 rfl _ _ _ _ (show Boxed _ _ _ _ from Z12.out.1.2.2.2.2.1) Tryz.underlying50 rfl (by rw [Hc2.out.1];kernel_rfl) ?_)
 refine (HX'.out _ _ (GtIn.at (show GtIn _ _ _ _ _ from Z12.out.1.2.2.2.2.2.2.1.1))).mono ?_
 rintro e wK ⟨rfl,q⟩
 have Z13:Hid (Lies w [Thing.box w.heap.size cs 36,GtLie.th b0 t0 (.agg c0) X,Thing.box t0 c0 50,Thing.box (t0+1) (ic i0 i1 i2) 52,Thing.box t2 c2 50,Thing.box (t2+1) (ic i0 i1 i2) 52,GtIn.th b2 t2 (.agg c2) Xm] wK):=Z12.out.below q
 clear q Z12
 go_upto_region 24 with fail
 go_wp2_with (refine wpList_load_row rfl 36 (.tmp 1) rfl w.heap.size rfl _ _ _ _ (show Boxed _ _ _ _ from Z13.out.1.1) Tryz.underlying36 rfl (by rw [Hcs.out.1];kernel_rfl) ?_)
 refine (TT'.out _ (K.out _ Z13.out.2)).mono ?_
 rintro e wAZ14 ⟨⟨cA,rfl,-,iA⟩,q⟩
 have Z14:Hid (Lies w [Thing.box w.heap.size cs 36,GtLie.th b0 t0 (.agg c0) X,Thing.box t0 c0 50,Thing.box (t0+1) (ic i0 i1 i2) 52,Thing.box t2 c2 50,Thing.box (t2+1) (ic i0 i1 i2) 52,GtIn.th b2 t2 (.agg c2) Xm] wAZ14):=Z13.out.below q
 have AT:Hid (GtAt wAZ14 (.agg cA) g):=iA.at
 clear q iA Z13
 go_wp2_with fail
 refine (D'.out _ _ Z14.out.2 AT).mono ?_
 rintro e wY ⟨⟨c3,rfl,hc,iY⟩,q⟩
 have Hc3:Hid (c3.size=14∧c3.all (·.oneCell')=true):=hc
 clear hc AT
 obtain ⟨WA,hWA⟩:∃ z,z=(wY.alloc (.cells gz 50)).alloc (.cells zi 52):=⟨_,rfl⟩
 have bA:Hid (Below wY.heap.size wY WA):=by rw [hWA];exact ((Below.refl _ _).alloc nlr _).alloc (by simp) _
 have N1:Hid (Boxed WA wY.heap.size gz 50∧Boxed WA (wY.heap.size+1) zi 52):=by
  rw [hWA]
  refine ⟨(Boxed.new wY _ _).more _,?_⟩
  have:=Boxed.new (wY.alloc (.cells gz 50)) zi 52
  simpa using this
 have HWA:Hid (WA=_):=hWA
 clear hWA
 have N2:Hid (Boxed (WA.setRow wY.heap.size c3) (wY.heap.size+1) zi 52):=(setRow_other _ _ _ _ (by omega)).trans N1.out.2
 go_upto_region 25 with (first|(rw [← HWA.out];refine wpList_store_row rfl 50 (.tmp 14) (.tmp 94) rfl wY.heap.size c3 rfl rfl _ _ N1.out.1 (by rw [Hc3.out.1];kernel_rfl) (by rw [Hc3.out.1];rfl) Hc3.out.2 ?_)|(refine wpList_store_row rfl 52 (.tmp 15) (.tmp 95) rfl (wY.heap.size+1) (ic i0 i1 i2) rfl rfl _ _ N2.out (by kernel_rfl) rfl (by simp [Value.oneCell']) ?_))
 try simp only [Act.put]
 have bN:Below wY.heap.size wY ((WA.setRow wY.heap.size c3).setRow (wY.heap.size+1) (ic i0 i1 i2)):=below_setRow (below_setRow bA.out nlr _) (by omega) _
 have Z15:Hid (Lies w [Thing.box w.heap.size cs 36,GtLie.th b0 t0 (.agg c0) X,Thing.box t0 c0 50,Thing.box (t0+1) (ic i0 i1 i2) 52,Thing.box t2 c2 50,Thing.box (t2+1) (ic i0 i1 i2) 52,GtIn.th b2 t2 (.agg c2) Xm,GtIn.th wAZ14.heap.size wY.heap.size (.agg c3) X,Thing.box wY.heap.size c3 50,Thing.box (wY.heap.size+1) (ic i0 i1 i2) 52] ((WA.setRow wY.heap.size c3).setRow (wY.heap.size+1) (ic i0 i1 i2))∧wAZ14.heap.size≤wY.heap.size∧wY.heap.size+2≤((WA.setRow wY.heap.size c3).setRow (wY.heap.size+1) (ic i0 i1 i2)).heap.size∧w.heap.size+1≤wAZ14.heap.size):=⟨(Z14.out.below q).more bN ⟨⟨GtIn.below iY bN,bN.size⟩,(setRow_other _ _ _ _ (by omega)).trans (setRow_heap _ _ _ _ _ _ N1.out.1),setRow_heap _ _ _ _ _ _ N2.out,trivial⟩,q.size,Boxed.under (setRow_heap _ _ _ _ _ _ N2.out),Boxed.under (show Boxed _ w.heap.size _ _ from Z14.out.1.1)⟩
 clear bN q iY N1 N2 HWA bA Z14
 generalize ((WA.setRow wY.heap.size c3).setRow (wY.heap.size+1) (ic i0 i1 i2))=w3 at Z15 ⊢
 generalize wY.heap.size=t3 at Z15 ⊢
 generalize wAZ14.heap.size=b3 at Z15
 clear WA
 have Z15A:Hid (Lies w [Thing.box w.heap.size cs 36,GtLie.th b0 t0 (.agg c0) X,Thing.box t0 c0 50,Thing.box (t0+1) (ic i0 i1 i2) 52,Thing.box t2 c2 50,Thing.box (t2+1) (ic i0 i1 i2) 52,GtIn.th b2 t2 (.agg c2) Xm,GtIn.th b3 t3 (.agg c3) X,Thing.box t3 c3 50,Thing.box (t3+1) (ic i0 i1 i2) 52] w3):=Z15.out.1
 have O3:Hid (b3≤t3∧t3+2≤w3.heap.size∧w.heap.size+1≤b3):=Z15.out.2
 clear Z15
 clear O3
 go_wp2_with (first|(refine wpList_load_row rfl 50 (.tmp 14) rfl t3 rfl _ _ _ _ (show Boxed _ _ _ _ from Z15A.out.1.2.2.2.2.2.2.2.2.1) Tryz.underlying50 rfl (by rw [Hc3.out.1];kernel_rfl) ?_)|(refine wpList_load_row rfl 50 (.tmp 4) rfl t0 rfl _ _ _ _ (show Boxed _ _ _ _ from Z15A.out.1.2.2.1) Tryz.underlying50 rfl (by rw [Hc0.out.1];kernel_rfl) ?_))
 refine (EX'.out _ _ _ (GtIn.at (show GtIn _ _ _ _ _ from Z15A.out.1.2.2.2.2.2.2.2.1.1)) (GtLie.at (show GtLie _ _ _ _ _ from Z15A.out.1.2.1.1))).mono ?_
 rintro e wE15 ⟨rfl,q⟩
 have Z16:Hid (Lies w [Thing.box w.heap.size cs 36,GtLie.th b0 t0 (.agg c0) X,Thing.box t0 c0 50,Thing.box (t0+1) (ic i0 i1 i2) 52,Thing.box t2 c2 50,Thing.box (t2+1) (ic i0 i1 i2) 52,GtIn.th b2 t2 (.agg c2) Xm,GtIn.th b3 t3 (.agg c3) X,Thing.box t3 c3 50,Thing.box (t3+1) (ic i0 i1 i2) 52] wE15):=Z15A.out.below q
 clear q Z15A
 have j30:wE15.cell? ⟨t3+1,0,none⟩=_:=Boxed.cell (show Boxed _ _ _ _ from Z16.out.1.2.2.2.2.2.2.2.2.2.1) 0 rfl
 have j31:wE15.cell? ⟨t3+1,1,none⟩=_:=Boxed.cell (show Boxed _ _ _ _ from Z16.out.1.2.2.2.2.2.2.2.2.2.1) 1 rfl
 have j32:wE15.cell? ⟨t3+1,2,none⟩=_:=Boxed.cell (show Boxed _ _ _ _ from Z16.out.1.2.2.2.2.2.2.2.2.2.1) 2 rfl
 have j00:wE15.cell? ⟨t0+1,0,none⟩=_:=Boxed.cell (show Boxed _ _ _ _ from Z16.out.1.2.2.2.1) 0 rfl
 have j01:wE15.cell? ⟨t0+1,1,none⟩=_:=Boxed.cell (show Boxed _ _ _ _ from Z16.out.1.2.2.2.1) 1 rfl
 have j02:wE15.cell? ⟨t0+1,2,none⟩=_:=Boxed.cell (show Boxed _ _ _ _ from Z16.out.1.2.2.2.1) 2 rfl
 go_wp2_with fail
 refine (EI'.out _).mono ?_
 rintro e wI16 ⟨rfl,q⟩
 clear j30 j31 j32 j00 j01 j02
 have Z17:Hid (Lies w [Thing.box w.heap.size cs 36,GtLie.th b0 t0 (.agg c0) X,Thing.box t0 c0 50,Thing.box (t0+1) (ic i0 i1 i2) 52,Thing.box t2 c2 50,Thing.box (t2+1) (ic i0 i1 i2) 52,GtIn.th b2 t2 (.agg c2) Xm,GtIn.th b3 t3 (.agg c3) X,Thing.box t3 c3 50,Thing.box (t3+1) (ic i0 i1 i2) 52] wI16):=Z16.out.below q
 clear q Z16
 go_upto_region 28 with fail
 go_wp2_with (refine wpList_load_row rfl 50 (.tmp 8) rfl t2 rfl _ _ _ _ (show Boxed _ _ _ _ from Z17.out.1.2.2.2.2.1) Tryz.underlying50 rfl (by rw [Hc2.out.1];kernel_rfl) ?_)
 refine (HX'.out _ _ (GtIn.at (show GtIn _ _ _ _ _ from Z17.out.1.2.2.2.2.2.2.1.1))).mono ?_
 rintro e wQ ⟨rfl,q⟩
 have Z18:Hid (Lies w [Thing.box w.heap.size cs 36,GtLie.th b0 t0 (.agg c0) X,Thing.box t0 c0 50,Thing.box (t0+1) (ic i0 i1 i2) 52,Thing.box t2 c2 50,Thing.box (t2+1) (ic i0 i1 i2) 52,GtIn.th b2 t2 (.agg c2) Xm,GtIn.th b3 t3 (.agg c3) X,Thing.box t3 c3 50,Thing.box (t3+1) (ic i0 i1 i2) 52] wQ):=Z17.out.below q
 clear q Z17
 go_wp2
 go_ret
 exact ⟨rfl,Z18.out.2⟩
end Go.Proofs.YtgebghkcikmfaaaGreatDoor
