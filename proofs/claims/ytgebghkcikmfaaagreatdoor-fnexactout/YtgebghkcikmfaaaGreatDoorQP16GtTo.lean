import Derived.Test.YtgebghkcikmfaaaGreatDoorQP4GtOwn
import Derived.Test.YtgebghkcikmfaaaGreatDoorQP15GtSz
set_option maxHeartbeats 12800000
set_option maxRecDepth 100000
namespace Go.Proofs.YtgebghkcikmfaaaGreatDoor
open Go.RowKit
abbrev RtsW.th (b t:Nat) (v:Value) (l:List Rt):Thing:=Thing.own (fun W=>RtsW b t W v l) b t (fun h s k=>RtsW.keep h s k)
abbrev RusW.th (b t:Nat) (v:Value) (l:List Ru):Thing:=Thing.own (fun W=>RusW b t W v l) b t (fun h s k=>RusW.keep h s k)
abbrev NdsW.th (b t:Nat) (v:Value) (l:List Nd):Thing:=Thing.own (fun W=>NdsW b t W v l) b t (fun h s k=>NdsW.keep h s k)
abbrev IntsW.th (b t:Nat) (v:Value) (l:List Int):Thing:=Thing.own (fun W=>IntsW b t W v l) b t (fun h s k=>IntsW.keep h s k)
abbrev SrsW.th (b t:Nat) (v:Value) (l:List Sr):Thing:=Thing.own (fun W=>SrsW b t W v l) b t (fun h s k=>SrsW.keep h s k)
abbrev RwIn.th (b t:Nat) (v:Value) (l:Rw):Thing:=Thing.own (fun W=>RwIn b t W v l) b t (fun h s k=>RwIn.keep h s k)
abbrev FsIn.th (b t:Nat) (v:Value) (l:Fs):Thing:=Thing.own (fun W=>FsIn b t W v l) b t (fun h s k=>FsIn.keep h s k)
abbrev GtIn.th (b t:Nat) (v:Value) (l:Gt):Thing:=Thing.own (fun W=>GtIn b t W v l) b t (fun h s k=>GtIn.keep h s k)
abbrev GtLie.th (b t:Nat) (v:Value) (l:Gt):Thing:=Thing.own (fun W=>GtLie b t W v l) b t (fun h s k=>GtLie.keep h s k)
theorem toLn (r:Ln) (w:World) :
 Calls Tryz.prog 25 #[r.val] w fun e w'=>e = .returned r.val∧w'=((w.alloc (.cells r.cells.toArray 23)).alloc (.cells r.cells.toArray 38)).alloc (.cells r.cells.toArray 38):=by
 unfold Ln.val Ln.cells
 obtain ⟨v0,v1,v2⟩:=r
 simp only []
 go_enter Tryz.func25,Tryz.ntmps25
 go_wp2
 refine bodyPost_ret (v:=.agg #[.int .i64 v0,.int .i64 v1,.int .i64 v2]) (by simp [results,Tryz.results25,go_sem]) rfl ⟨rfl,rfl⟩
theorem toLnB (r:Ln) (w:World) :
 Calls Tryz.prog 25 #[r.val] w fun e w'=>e = .returned r.val∧Bel w w' :=
 (toLn r w).mono fun _ _ h=>⟨h.1,by
  rw [h.2]
  exact (((Below.refl _ w).alloc nlr _).alloc (by simp) _).alloc (by simp;omega) _⟩
theorem toGts (g:Gt) (x:Ga) (w:World) (hB:g.big≤1048576) (hG:Hid (GtV w x g)) :
 Calls Tryz.prog 7 #[g.val x] w fun e w'=>(∃ v,e = .returned v∧GtIn w.heap.size w'.heap.size w' v g)∧Below w.heap.size w w':=by
 obtain ⟨z1,z2,z3,z4,z5,z6,z7⟩:=Gt.small hB
 obtain ⟨n1,hn1⟩:∃ n,g.routes.length=n:=⟨_,rfl⟩
 obtain ⟨n2,hn2⟩:∃ n,g.rules.length=n:=⟨_,rfl⟩
 obtain ⟨n3,hn3⟩:∃ n,g.tree.length=n:=⟨_,rfl⟩
 obtain ⟨n4,hn4⟩:∃ n,g.leaves.length=n:=⟨_,rfl⟩
 obtain ⟨n5,hn5⟩:∃ n,g.rows.lists.length=n:=⟨_,rfl⟩
 obtain ⟨n6,hn6⟩:∃ n,g.steers.length=n:=⟨_,rfl⟩
 obtain ⟨n7,hn7⟩:∃ n,g.fair.flows.length=n:=⟨_,rfl⟩
 obtain ⟨kd,hkd⟩:∃ n,g.ln.kind=n:=⟨_,rfl⟩
 obtain ⟨ex,hex⟩:∃ n,g.ln.extra=n:=⟨_,rfl⟩
 obtain ⟨le,hle⟩:∃ n,g.ln.least=n:=⟨_,rfl⟩
 obtain ⟨mo,hmo⟩:∃ n,g.rows.most=n:=⟨_,rfl⟩
 obtain ⟨nw,hnw⟩:∃ n,g.fair.now=n:=⟨_,rfl⟩
 obtain ⟨nx,hnx⟩:∃ n,g.next=n:=⟨_,rfl⟩
 obtain ⟨dr,hdr⟩:∃ n,g.draw=n:=⟨_,rfl⟩
 have M1:Hid (∀ (W:World),GtV W x g→Calls Tryz.prog 26 #[.slice x.a1 n1 x.c1] W fun e w'=>(∃ y d,e = .returned (.slice y n1 d)∧RtsW W.heap.size w'.heap.size w' (.slice y n1 d) g.routes)∧Below W.heap.size W w'):=fun W h=>by
  have e1:∀ (a:Option Addr) (c:Nat),(Value.slice a g.routes.length c) = .slice a n1 c:=fun a c=>by rw [hn1]
  rw [← e1]
  refine (toRtW x.a1 x.c1 g.routes W z1 (RtsV.spot' h.routes)).mono fun e w' hh=>?_
  obtain ⟨⟨v,rfl,r⟩,q⟩:=hh
  obtain ⟨y,d,e⟩:=r.cells
  subst e
  rw [e1] at r ⊢
  exact ⟨⟨y,d,rfl,r⟩,q⟩
 have M2:Hid (∀ (W:World),GtV W x g→Calls Tryz.prog 27 #[.slice x.a2 n2 x.c2] W fun e w'=>(∃ y d,e = .returned (.slice y n2 d)∧RusW W.heap.size w'.heap.size w' (.slice y n2 d) g.rules)∧Below W.heap.size W w'):=fun W h=>by
  have e1:∀ (a:Option Addr) (c:Nat),(Value.slice a g.rules.length c) = .slice a n2 c:=fun a c=>by rw [hn2]
  rw [← e1]
  refine (toRuW x.a2 x.c2 g.rules W z2 (RusV.spot' h.rules)).mono fun e w' hh=>?_
  obtain ⟨⟨v,rfl,r⟩,q⟩:=hh
  obtain ⟨y,d,e⟩:=r.cells
  subst e
  rw [e1] at r ⊢
  exact ⟨⟨y,d,rfl,r⟩,q⟩
 have M3:Hid (∀ (W:World),GtV W x g→Calls Tryz.prog 28 #[.slice x.a3 n3 x.c3] W fun e w'=>(∃ y d,e = .returned (.slice y n3 d)∧NdsW W.heap.size w'.heap.size w' (.slice y n3 d) g.tree)∧Below W.heap.size W w'):=fun W h=>by
  have e1:∀ (a:Option Addr) (c:Nat),(Value.slice a g.tree.length c) = .slice a n3 c:=fun a c=>by rw [hn3]
  rw [← e1]
  refine (toNdW x.a3 x.c3 g.tree W z3 (NdsV.spot' h.tree)).mono fun e w' hh=>?_
  obtain ⟨⟨v,rfl,r⟩,q⟩:=hh
  obtain ⟨y,d,e⟩:=r.cells
  subst e
  rw [e1] at r ⊢
  exact ⟨⟨y,d,rfl,r⟩,q⟩
 have M4:Hid (∀ (W:World),GtV W x g→Calls Tryz.prog 29 #[.slice x.a4 n4 x.c4] W fun e w'=>(∃ y d,e = .returned (.slice y n4 d)∧IntsW W.heap.size w'.heap.size w' (.slice y n4 d) g.leaves)∧Below W.heap.size W w'):=fun W h=>by
  have e1:∀ (a:Option Addr) (c:Nat),(Value.slice a g.leaves.length c) = .slice a n4 c:=fun a c=>by rw [hn4]
  rw [← e1]
  refine (toIntW x.a4 x.c4 g.leaves W z4 (IntsV.spot' h.leaves)).mono fun e w' hh=>?_
  obtain ⟨⟨v,rfl,r⟩,q⟩:=hh
  obtain ⟨y,d,e⟩:=r.cells
  subst e
  rw [e1] at r ⊢
  exact ⟨⟨y,d,rfl,r⟩,q⟩
 have M5:Hid (∀ (W:World),GtV W x g→Calls Tryz.prog 30 #[.agg #[.int .i64 mo,.slice x.a5 n5 x.c5]] W fun e w'=>(∃ y d,e = .returned (.agg #[.int .i64 mo,.slice y n5 d])∧RwIn W.heap.size w'.heap.size w' (.agg #[.int .i64 mo,.slice y n5 d]) g.rows)∧Below W.heap.size W w'):=fun W h=>by
  have e1:∀ a c,g.rows.val a c = .agg #[.int .i64 mo,.slice a n5 c]:=fun a c=>by { unfold Rw.val;rw [hn5,hmo] }
  rw [← e1]
  refine (toRws g.rows x.a5 x.c5 W z5 h.rows.spot).mono fun e w' hh=>?_
  obtain ⟨⟨v,rfl,r⟩,q⟩:=hh
  obtain ⟨y,d,e,-⟩:=id r
  subst e
  rw [e1] at r ⊢
  exact ⟨⟨y,d,rfl,r⟩,q⟩
 have M6:Hid (∀ (W:World),GtV W x g→Calls Tryz.prog 31 #[.slice x.a6 n6 x.c6] W fun e w'=>(∃ y d,e = .returned (.slice y n6 d)∧SrsW W.heap.size w'.heap.size w' (.slice y n6 d) g.steers)∧Below W.heap.size W w'):=fun W h=>by
  have e1:∀ (a:Option Addr) (c:Nat),(Value.slice a g.steers.length c) = .slice a n6 c:=fun a c=>by rw [hn6]
  rw [← e1]
  refine (toSrW x.a6 x.c6 g.steers W z6 (SrsV.spot' h.steers)).mono fun e w' hh=>?_
  obtain ⟨⟨v,rfl,r⟩,q⟩:=hh
  obtain ⟨y,d,e⟩:=r.cells
  subst e
  rw [e1] at r ⊢
  exact ⟨⟨y,d,rfl,r⟩,q⟩
 have M7:Hid (∀ (W:World),GtV W x g→Calls Tryz.prog 32 #[.agg #[.int .i64 nw,.slice x.a7 n7 x.c7]] W fun e w'=>(∃ y d,e = .returned (.agg #[.int .i64 nw,.slice y n7 d])∧FsIn W.heap.size w'.heap.size w' (.agg #[.int .i64 nw,.slice y n7 d]) g.fair)∧Below W.heap.size W w'):=fun W h=>by
  have e1:∀ a c,g.fair.val a c = .agg #[.int .i64 nw,.slice a n7 c]:=fun a c=>by { unfold Fs.val;rw [hn7,hnw] }
  rw [← e1]
  refine (toFss g.fair x.a7 x.c7 W z7 h.fair.spot).mono fun e w' hh=>?_
  obtain ⟨⟨v,rfl,r⟩,q⟩:=hh
  obtain ⟨y,d,e,-⟩:=id r
  subst e
  rw [e1] at r ⊢
  exact ⟨⟨y,d,rfl,r⟩,q⟩
 have LN:=fun w=>toLnB g.ln w
 unfold Ln.val at LN
 rw [hkd,hex,hle] at LN
 have LN':Hid _:=LN
 have HV:Hid (∀ x:Ga,g.val x = .agg (gc kd ex le (.slice x.a1 n1 x.c1) (.slice x.a2 n2 x.c2) (.slice x.a3 n3 x.c3) (.slice x.a4 n4 x.c4) mo (.slice x.a5 n5 x.c5) (.slice x.a6 n6 x.c6) nw (.slice x.a7 n7 x.c7) nx dr)):=fun x=>by
  show Gt.val g x=_
  rw [← hn1,← hn2,← hn3,← hn4,← hn5,← hn6,← hn7,← hkd,← hex,← hle,← hmo,← hnw,← hnx,← hdr]
  rfl
 have V1:Hid (∀ (b t:Nat) (w:World) (y:Option Addr) (d:Nat),RtsW b t w (.slice y n1 d) g.routes→RtsW b t w (.slice y g.routes.length d) g.routes):=fun b t w y d h=>by
  have e1:(Value.slice y g.routes.length d) = .slice y n1 d:=by rw [hn1]
  rw [e1]
  exact h
 have V2:Hid (∀ (b t:Nat) (w:World) (y:Option Addr) (d:Nat),RusW b t w (.slice y n2 d) g.rules→RusW b t w (.slice y g.rules.length d) g.rules):=fun b t w y d h=>by
  have e1:(Value.slice y g.rules.length d) = .slice y n2 d:=by rw [hn2]
  rw [e1]
  exact h
 have V3:Hid (∀ (b t:Nat) (w:World) (y:Option Addr) (d:Nat),NdsW b t w (.slice y n3 d) g.tree→NdsW b t w (.slice y g.tree.length d) g.tree):=fun b t w y d h=>by
  have e1:(Value.slice y g.tree.length d) = .slice y n3 d:=by rw [hn3]
  rw [e1]
  exact h
 have V4:Hid (∀ (b t:Nat) (w:World) (y:Option Addr) (d:Nat),IntsW b t w (.slice y n4 d) g.leaves→IntsW b t w (.slice y g.leaves.length d) g.leaves):=fun b t w y d h=>by
  have e1:(Value.slice y g.leaves.length d) = .slice y n4 d:=by rw [hn4]
  rw [e1]
  exact h
 have V5:Hid (∀ (b t:Nat) (w:World) (y:Option Addr) (d:Nat),RwIn b t w (.agg #[.int .i64 mo,.slice y n5 d]) g.rows→RwIn b t w (g.rows.val y d) g.rows):=fun b t w y d h=>by
  have e1:g.rows.val y d = .agg #[.int .i64 mo,.slice y n5 d]:=by { unfold Rw.val;rw [hn5,hmo] }
  rw [e1]
  exact h
 have V6:Hid (∀ (b t:Nat) (w:World) (y:Option Addr) (d:Nat),SrsW b t w (.slice y n6 d) g.steers→SrsW b t w (.slice y g.steers.length d) g.steers):=fun b t w y d h=>by
  have e1:(Value.slice y g.steers.length d) = .slice y n6 d:=by rw [hn6]
  rw [e1]
  exact h
 have V7:Hid (∀ (b t:Nat) (w:World) (y:Option Addr) (d:Nat),FsIn b t w (.agg #[.int .i64 nw,.slice y n7 d]) g.fair→FsIn b t w (g.fair.val y d) g.fair):=fun b t w y d h=>by
  have e1:g.fair.val y d = .agg #[.int .i64 nw,.slice y n7 d]:=by { unfold Fs.val;rw [hn7,hnw] }
  rw [e1]
  exact h
 rw [HV.out]
 clear LN hB z1 z2 z3 z4 z5 z6 z7 hn1 hn2 hn3 hn4 hn5 hn6 hn7 hkd hex hle hmo hnw hnx hdr
 obtain ⟨P,hP⟩:∃ A,A=w.heap.size:=⟨_,rfl⟩
 obtain ⟨R,hR⟩:∃ A,A=w.heap.size+1:=⟨_,rfl⟩
 obtain ⟨O,hO⟩:∃ A,A=w.heap.size+1+1:=⟨_,rfl⟩
 obtain ⟨W0,hW⟩:∃ W,W=((w.alloc (.cells (gc kd ex le (.slice x.a1 n1 x.c1) (.slice x.a2 n2 x.c2) (.slice x.a3 n3 x.c3) (.slice x.a4 n4 x.c4) mo (.slice x.a5 n5 x.c5) (.slice x.a6 n6 x.c6) nw (.slice x.a7 n7 x.c7) nx dr) 36)).alloc (.cells gz 50)).alloc (.cells gz 50):=⟨_,rfl⟩
 have Z0:Hid (Lies w [Thing.box O gz 50,Thing.box P (gc kd ex le (.slice x.a1 n1 x.c1) (.slice x.a2 n2 x.c2) (.slice x.a3 n3 x.c3) (.slice x.a4 n4 x.c4) mo (.slice x.a5 n5 x.c5) (.slice x.a6 n6 x.c6) nw (.slice x.a7 n7 x.c7) nx dr) 36,Thing.box R gz 50] W0):=by
  rw [hW,hO,hP,hR]
  refine ⟨⟨?_,?_,?_,trivial⟩,(((Below.refl _ _).alloc nlr _).alloc (by simp) _).alloc (by simp;omega) _⟩
  ·have:=Boxed.new ((w.alloc (.cells (gc kd ex le (.slice x.a1 n1 x.c1) (.slice x.a2 n2 x.c2) (.slice x.a3 n3 x.c3) (.slice x.a4 n4 x.c4) mo (.slice x.a5 n5 x.c5) (.slice x.a6 n6 x.c6) nw (.slice x.a7 n7 x.c7) nx dr) 36)).alloc (.cells gz 50)) gz 50
   simpa using this
  ·exact ((Boxed.new w _ _).more _).more _
  ·have:=(Boxed.new (w.alloc (.cells (gc kd ex le (.slice x.a1 n1 x.c1) (.slice x.a2 n2 x.c2) (.slice x.a3 n3 x.c3) (.slice x.a4 n4 x.c4) mo (.slice x.a5 n5 x.c5) (.slice x.a6 n6 x.c6) nw (.slice x.a7 n7 x.c7) nx dr) 36)) gz 50).more (.cells gz 50)
   simpa using this
 have Or0:Hid (P=w.heap.size∧R=P+1∧O=P+2∧O+1≤W0.heap.size):=⟨hP,by omega,by omega,by rw [hW,hO];simp⟩
 have HW:Hid (W0=_):=hW
 have HP:Hid (P=_):=hP
 have HR:Hid (R=_):=hR
 have HO:Hid (O=_):=hO
 clear hW hP hR hO
 have K:Hid (∀ W,Below w.heap.size w W→GtV W x g):=fun W q=>hG.out.below q
 clear hG
 go_enter Tryz.func7,Tryz.ntmps7
 go_upto_region 2 with fail
 rw [← HW.out,← HO.out,← HR.out,← HP.out]
 clear HW HP HR HO
 have c0:W0.cell? ⟨P,0,none⟩=some (.int .i64 kd):=Boxed.cell (show Boxed _ _ _ _ from Z0.out.1.2.1) 0 rfl
 have c1:W0.cell? ⟨P,1,none⟩=some (.int .i64 ex):=Boxed.cell (show Boxed _ _ _ _ from Z0.out.1.2.1) 1 rfl
 have c2:W0.cell? ⟨P,2,none⟩=some (.int .i64 le):=Boxed.cell (show Boxed _ _ _ _ from Z0.out.1.2.1) 2 rfl
 go_wp2_with fail
 refine (LN'.out _).mono ?_
 rintro e U0 ⟨rfl,q⟩
 have T0:Hid (Lies w [Thing.box O gz 50,Thing.box P (gc kd ex le (.slice x.a1 n1 x.c1) (.slice x.a2 n2 x.c2) (.slice x.a3 n3 x.c3) (.slice x.a4 n4 x.c4) mo (.slice x.a5 n5 x.c5) (.slice x.a6 n6 x.c6) nw (.slice x.a7 n7 x.c7) nx dr) 36,Thing.box R gz 50] U0):=Z0.out.below q
 have Or1:Hid (P=w.heap.size∧R=P+1∧O=P+2∧O+1≤U0.heap.size):=⟨Or0.out.1,Or0.out.2.1,Or0.out.2.2.1,Nat.le_trans Or0.out.2.2.2 q.size⟩
 clear q c0 c1 c2 Z0 Or0
 have e0:U0.cell? ⟨O,0,none⟩=some (.int .i64 0):=Boxed.cell (show Boxed _ _ _ _ from T0.out.1.1) 0 rfl
 have f0:U0.frozen? ⟨O,0,none⟩=false:=Boxed.ice (show Boxed _ _ _ _ from T0.out.1.1) 0
 have e1:U0.cell? ⟨O,1,none⟩=some (.int .i64 0):=Boxed.cell (show Boxed _ _ _ _ from T0.out.1.1) 1 rfl
 have f1:U0.frozen? ⟨O,1,none⟩=false:=Boxed.ice (show Boxed _ _ _ _ from T0.out.1.1) 1
 have e2:U0.cell? ⟨O,2,none⟩=some (.int .i64 0):=Boxed.cell (show Boxed _ _ _ _ from T0.out.1.1) 2 rfl
 have f2:U0.frozen? ⟨O,2,none⟩=false:=Boxed.ice (show Boxed _ _ _ _ from T0.out.1.1) 2
 have hOl:O<U0.heap.size:=Boxed.under (show Boxed _ _ _ _ from T0.out.1.1)
 have off:OffT O (O+1) [Thing.box P (gc kd ex le (.slice x.a1 n1 x.c1) (.slice x.a2 n2 x.c2) (.slice x.a3 n3 x.c3) (.slice x.a4 n4 x.c4) mo (.slice x.a5 n5 x.c5) (.slice x.a6 n6 x.c6) nw (.slice x.a7 n7 x.c7) nx dr) 36,Thing.box R gz 50]:=⟨(by show _∨_;have:=Or1.out;left;show P+1≤O;omega),(by show _∨_;have:=Or1.out;left;show R+1≤O;omega),trivial⟩
 have S1_0:Lies w [Thing.box O (gc kd 0 0 (.slice none 0 0) (.slice none 0 0) (.slice none 0 0) (.slice none 0 0) 0 (.slice none 0 0) (.slice none 0 0) 0 (.slice none 0 0) 0 0) 50,Thing.box P (gc kd ex le (.slice x.a1 n1 x.c1) (.slice x.a2 n2 x.c2) (.slice x.a3 n3 x.c3) (.slice x.a4 n4 x.c4) mo (.slice x.a5 n5 x.c5) (.slice x.a6 n6 x.c6) nw (.slice x.a7 n7 x.c7) nx dr) 36,Thing.box R gz 50] (U0.setCell ⟨O,0,none⟩ (.int .i64 kd)):=lies_cell T0.out 0 (.int .i64 kd) rfl off (by have:=Or1.out;omega)
 have S1_1:Lies w [Thing.box O (gc kd ex 0 (.slice none 0 0) (.slice none 0 0) (.slice none 0 0) (.slice none 0 0) 0 (.slice none 0 0) (.slice none 0 0) 0 (.slice none 0 0) 0 0) 50,Thing.box P (gc kd ex le (.slice x.a1 n1 x.c1) (.slice x.a2 n2 x.c2) (.slice x.a3 n3 x.c3) (.slice x.a4 n4 x.c4) mo (.slice x.a5 n5 x.c5) (.slice x.a6 n6 x.c6) nw (.slice x.a7 n7 x.c7) nx dr) 36,Thing.box R gz 50] ((U0.setCell ⟨O,0,none⟩ (.int .i64 kd)).setCell ⟨O,1,none⟩ (.int .i64 ex)):=lies_cell S1_0 1 (.int .i64 ex) rfl off (by have:=Or1.out;omega)
 have S1_2:Lies w [Thing.box O (gc kd ex le (.slice none 0 0) (.slice none 0 0) (.slice none 0 0) (.slice none 0 0) 0 (.slice none 0 0) (.slice none 0 0) 0 (.slice none 0 0) 0 0) 50,Thing.box P (gc kd ex le (.slice x.a1 n1 x.c1) (.slice x.a2 n2 x.c2) (.slice x.a3 n3 x.c3) (.slice x.a4 n4 x.c4) mo (.slice x.a5 n5 x.c5) (.slice x.a6 n6 x.c6) nw (.slice x.a7 n7 x.c7) nx dr) 36,Thing.box R gz 50] (((U0.setCell ⟨O,0,none⟩ (.int .i64 kd)).setCell ⟨O,1,none⟩ (.int .i64 ex)).setCell ⟨O,2,none⟩ (.int .i64 le)):=lies_cell S1_1 2 (.int .i64 le) rfl off (by have:=Or1.out;omega)
 have Y1:Hid (Lies w [Thing.box O (gc kd ex le (.slice none 0 0) (.slice none 0 0) (.slice none 0 0) (.slice none 0 0) 0 (.slice none 0 0) (.slice none 0 0) 0 (.slice none 0 0) 0 0) 50,Thing.box P (gc kd ex le (.slice x.a1 n1 x.c1) (.slice x.a2 n2 x.c2) (.slice x.a3 n3 x.c3) (.slice x.a4 n4 x.c4) mo (.slice x.a5 n5 x.c5) (.slice x.a6 n6 x.c6) nw (.slice x.a7 n7 x.c7) nx dr) 36,Thing.box R gz 50] (((U0.setCell ⟨O,0,none⟩ (.int .i64 kd)).setCell ⟨O,1,none⟩ (.int .i64 ex)).setCell ⟨O,2,none⟩ (.int .i64 le))):=S1_2
 clear off S1_0 S1_1 S1_2
 have sz:(((U0.setCell ⟨O,0,none⟩ (.int .i64 kd)).setCell ⟨O,1,none⟩ (.int .i64 ex)).setCell ⟨O,2,none⟩ (.int .i64 le)).heap.size=U0.heap.size:=by simp [World.setCell]
 have Sz:Hid (_=_):=sz
 clear sz
 go_upto_region 3 with fail
 generalize (((U0.setCell ⟨O,0,none⟩ (.int .i64 kd)).setCell ⟨O,1,none⟩ (.int .i64 ex)).setCell ⟨O,2,none⟩ (.int .i64 le))=X1 at Y1 Sz ⊢
 clear hOl e0 f0 e1 f1 e2 f2 T0
 have OrL:Hid (P=w.heap.size∧R=P+1∧O=P+2∧O+1≤X1.heap.size):=⟨Or1.out.1,Or1.out.2.1,Or1.out.2.2.1,by rw [Sz.out];exact Or1.out.2.2.2⟩
 clear Sz Or1
 have c3:X1.cell? ⟨P,3,none⟩=some (.slice x.a1 n1 x.c1):=Boxed.cell (show Boxed _ _ _ _ from Y1.out.1.2.1) 3 rfl
 go_wp2_with fail
 refine (M1.out _ (K.out _ Y1.out.2)).mono ?_
 rintro e U1 ⟨⟨y1,d1,rfl,r⟩,q⟩
 obtain ⟨b1,hb1⟩:∃ b,b=X1.heap.size:=⟨_,rfl⟩
 obtain ⟨t1,ht1⟩:∃ b,b=U1.heap.size:=⟨_,rfl⟩
 have T1:Hid (Lies w [Thing.box O (gc kd ex le (.slice none 0 0) (.slice none 0 0) (.slice none 0 0) (.slice none 0 0) 0 (.slice none 0 0) (.slice none 0 0) 0 (.slice none 0 0) 0 0) 50,Thing.box P (gc kd ex le (.slice x.a1 n1 x.c1) (.slice x.a2 n2 x.c2) (.slice x.a3 n3 x.c3) (.slice x.a4 n4 x.c4) mo (.slice x.a5 n5 x.c5) (.slice x.a6 n6 x.c6) nw (.slice x.a7 n7 x.c7) nx dr) 36,Thing.box R gz 50,RtsW.th b1 t1 (.slice y1 n1 d1) g.routes] U1):=by rw [hb1,ht1];exact Y1.out.more q ⟨⟨r,nlr⟩,trivial⟩
 have Oa1:Hid (P=w.heap.size∧R=P+1∧O=P+2∧O+1≤b1∧b1≤t1∧t1≤U1.heap.size):=by
  have h:=OrL.out
  have h2:=q.size
  refine ⟨by omega,by omega,by omega,by omega,by omega,by omega⟩
 clear q r hb1 ht1 c3 Y1 OrL M1
 have e3:U1.cell? ⟨O,3,none⟩=some (.slice none 0 0):=Boxed.cell (show Boxed _ _ _ _ from T1.out.1.1) 3 rfl
 have f3:U1.frozen? ⟨O,3,none⟩=false:=Boxed.ice (show Boxed _ _ _ _ from T1.out.1.1) 3
 have hOl:O<U1.heap.size:=Boxed.under (show Boxed _ _ _ _ from T1.out.1.1)
 have off:OffT O (O+1) [Thing.box P (gc kd ex le (.slice x.a1 n1 x.c1) (.slice x.a2 n2 x.c2) (.slice x.a3 n3 x.c3) (.slice x.a4 n4 x.c4) mo (.slice x.a5 n5 x.c5) (.slice x.a6 n6 x.c6) nw (.slice x.a7 n7 x.c7) nx dr) 36,Thing.box R gz 50,RtsW.th b1 t1 (.slice y1 n1 d1) g.routes]:=⟨(by show _∨_;have:=Oa1.out;left;show P+1≤O;omega),(by show _∨_;have:=Oa1.out;left;show R+1≤O;omega),(by show _∨_;have:=Oa1.out;right;show O+1≤b1;omega),trivial⟩
 have S2_0:Lies w [Thing.box O (gc kd ex le (.slice y1 n1 d1) (.slice none 0 0) (.slice none 0 0) (.slice none 0 0) 0 (.slice none 0 0) (.slice none 0 0) 0 (.slice none 0 0) 0 0) 50,Thing.box P (gc kd ex le (.slice x.a1 n1 x.c1) (.slice x.a2 n2 x.c2) (.slice x.a3 n3 x.c3) (.slice x.a4 n4 x.c4) mo (.slice x.a5 n5 x.c5) (.slice x.a6 n6 x.c6) nw (.slice x.a7 n7 x.c7) nx dr) 36,Thing.box R gz 50,RtsW.th b1 t1 (.slice y1 n1 d1) g.routes] (U1.setCell ⟨O,3,none⟩ (.slice y1 n1 d1)):=lies_cell T1.out 3 (.slice y1 n1 d1) rfl off (by have:=Oa1.out;omega)
 have Y2:Hid (Lies w [Thing.box O (gc kd ex le (.slice y1 n1 d1) (.slice none 0 0) (.slice none 0 0) (.slice none 0 0) 0 (.slice none 0 0) (.slice none 0 0) 0 (.slice none 0 0) 0 0) 50,Thing.box P (gc kd ex le (.slice x.a1 n1 x.c1) (.slice x.a2 n2 x.c2) (.slice x.a3 n3 x.c3) (.slice x.a4 n4 x.c4) mo (.slice x.a5 n5 x.c5) (.slice x.a6 n6 x.c6) nw (.slice x.a7 n7 x.c7) nx dr) 36,Thing.box R gz 50,RtsW.th b1 t1 (.slice y1 n1 d1) g.routes] (U1.setCell ⟨O,3,none⟩ (.slice y1 n1 d1))):=S2_0
 clear off S2_0
 have sz:(U1.setCell ⟨O,3,none⟩ (.slice y1 n1 d1)).heap.size=U1.heap.size:=by simp [World.setCell]
 have Sz:Hid (_=_):=sz
 clear sz
 go_upto_region 4 with fail
 generalize (U1.setCell ⟨O,3,none⟩ (.slice y1 n1 d1))=X2 at Y2 Sz ⊢
 clear hOl e3 f3 T1
 have Ob1:Hid (P=w.heap.size∧R=P+1∧O=P+2∧O+1≤b1∧b1≤t1∧t1≤X2.heap.size):=by rw [Sz.out];exact Oa1.out
 clear Sz Oa1
 have c4:X2.cell? ⟨P,4,none⟩=some (.slice x.a2 n2 x.c2):=Boxed.cell (show Boxed _ _ _ _ from Y2.out.1.2.1) 4 rfl
 go_wp2_with fail
 refine (M2.out _ (K.out _ Y2.out.2)).mono ?_
 rintro e U2 ⟨⟨y2,d2,rfl,r⟩,q⟩
 obtain ⟨b2,hb2⟩:∃ b,b=X2.heap.size:=⟨_,rfl⟩
 obtain ⟨t2,ht2⟩:∃ b,b=U2.heap.size:=⟨_,rfl⟩
 have T2:Hid (Lies w [Thing.box O (gc kd ex le (.slice y1 n1 d1) (.slice none 0 0) (.slice none 0 0) (.slice none 0 0) 0 (.slice none 0 0) (.slice none 0 0) 0 (.slice none 0 0) 0 0) 50,Thing.box P (gc kd ex le (.slice x.a1 n1 x.c1) (.slice x.a2 n2 x.c2) (.slice x.a3 n3 x.c3) (.slice x.a4 n4 x.c4) mo (.slice x.a5 n5 x.c5) (.slice x.a6 n6 x.c6) nw (.slice x.a7 n7 x.c7) nx dr) 36,Thing.box R gz 50,RtsW.th b1 t1 (.slice y1 n1 d1) g.routes,RusW.th b2 t2 (.slice y2 n2 d2) g.rules] U2):=by rw [hb2,ht2];exact Y2.out.more q ⟨⟨r,nlr⟩,trivial⟩
 have Oa2:Hid (P=w.heap.size∧R=P+1∧O=P+2∧O+1≤b1∧b1≤t1∧t1≤b2∧b2≤t2∧t2≤U2.heap.size):=by
  have h:=Ob1.out
  have h2:=q.size
  refine ⟨by omega,by omega,by omega,by omega,by omega,by omega,by omega,by omega⟩
 clear q r hb2 ht2 c4 Y2 Ob1 M2
 have e4:U2.cell? ⟨O,4,none⟩=some (.slice none 0 0):=Boxed.cell (show Boxed _ _ _ _ from T2.out.1.1) 4 rfl
 have f4:U2.frozen? ⟨O,4,none⟩=false:=Boxed.ice (show Boxed _ _ _ _ from T2.out.1.1) 4
 have hOl:O<U2.heap.size:=Boxed.under (show Boxed _ _ _ _ from T2.out.1.1)
 have off:OffT O (O+1) [Thing.box P (gc kd ex le (.slice x.a1 n1 x.c1) (.slice x.a2 n2 x.c2) (.slice x.a3 n3 x.c3) (.slice x.a4 n4 x.c4) mo (.slice x.a5 n5 x.c5) (.slice x.a6 n6 x.c6) nw (.slice x.a7 n7 x.c7) nx dr) 36,Thing.box R gz 50,RtsW.th b1 t1 (.slice y1 n1 d1) g.routes,RusW.th b2 t2 (.slice y2 n2 d2) g.rules]:=⟨(by show _∨_;have:=Oa2.out;left;show P+1≤O;omega),(by show _∨_;have:=Oa2.out;left;show R+1≤O;omega),(by show _∨_;have:=Oa2.out;right;show O+1≤b1;omega),(by show _∨_;have:=Oa2.out;right;show O+1≤b2;omega),trivial⟩
 have S3_0:Lies w [Thing.box O (gc kd ex le (.slice y1 n1 d1) (.slice y2 n2 d2) (.slice none 0 0) (.slice none 0 0) 0 (.slice none 0 0) (.slice none 0 0) 0 (.slice none 0 0) 0 0) 50,Thing.box P (gc kd ex le (.slice x.a1 n1 x.c1) (.slice x.a2 n2 x.c2) (.slice x.a3 n3 x.c3) (.slice x.a4 n4 x.c4) mo (.slice x.a5 n5 x.c5) (.slice x.a6 n6 x.c6) nw (.slice x.a7 n7 x.c7) nx dr) 36,Thing.box R gz 50,RtsW.th b1 t1 (.slice y1 n1 d1) g.routes,RusW.th b2 t2 (.slice y2 n2 d2) g.rules] (U2.setCell ⟨O,4,none⟩ (.slice y2 n2 d2)):=lies_cell T2.out 4 (.slice y2 n2 d2) rfl off (by have:=Oa2.out;omega)
 have Y3:Hid (Lies w [Thing.box O (gc kd ex le (.slice y1 n1 d1) (.slice y2 n2 d2) (.slice none 0 0) (.slice none 0 0) 0 (.slice none 0 0) (.slice none 0 0) 0 (.slice none 0 0) 0 0) 50,Thing.box P (gc kd ex le (.slice x.a1 n1 x.c1) (.slice x.a2 n2 x.c2) (.slice x.a3 n3 x.c3) (.slice x.a4 n4 x.c4) mo (.slice x.a5 n5 x.c5) (.slice x.a6 n6 x.c6) nw (.slice x.a7 n7 x.c7) nx dr) 36,Thing.box R gz 50,RtsW.th b1 t1 (.slice y1 n1 d1) g.routes,RusW.th b2 t2 (.slice y2 n2 d2) g.rules] (U2.setCell ⟨O,4,none⟩ (.slice y2 n2 d2))):=S3_0
 clear off S3_0
 have sz:(U2.setCell ⟨O,4,none⟩ (.slice y2 n2 d2)).heap.size=U2.heap.size:=by simp [World.setCell]
 have Sz:Hid (_=_):=sz
 clear sz
 go_upto_region 5 with fail
 generalize (U2.setCell ⟨O,4,none⟩ (.slice y2 n2 d2))=X3 at Y3 Sz ⊢
 clear hOl e4 f4 T2
 have Ob2:Hid (P=w.heap.size∧R=P+1∧O=P+2∧O+1≤b1∧b1≤t1∧t1≤b2∧b2≤t2∧t2≤X3.heap.size):=by rw [Sz.out];exact Oa2.out
 clear Sz Oa2
 have c5:X3.cell? ⟨P,5,none⟩=some (.slice x.a3 n3 x.c3):=Boxed.cell (show Boxed _ _ _ _ from Y3.out.1.2.1) 5 rfl
 go_wp2_with fail
 refine (M3.out _ (K.out _ Y3.out.2)).mono ?_
 rintro e U3 ⟨⟨y3,d3,rfl,r⟩,q⟩
 obtain ⟨b3,hb3⟩:∃ b,b=X3.heap.size:=⟨_,rfl⟩
 obtain ⟨t3,ht3⟩:∃ b,b=U3.heap.size:=⟨_,rfl⟩
 have T3:Hid (Lies w [Thing.box O (gc kd ex le (.slice y1 n1 d1) (.slice y2 n2 d2) (.slice none 0 0) (.slice none 0 0) 0 (.slice none 0 0) (.slice none 0 0) 0 (.slice none 0 0) 0 0) 50,Thing.box P (gc kd ex le (.slice x.a1 n1 x.c1) (.slice x.a2 n2 x.c2) (.slice x.a3 n3 x.c3) (.slice x.a4 n4 x.c4) mo (.slice x.a5 n5 x.c5) (.slice x.a6 n6 x.c6) nw (.slice x.a7 n7 x.c7) nx dr) 36,Thing.box R gz 50,RtsW.th b1 t1 (.slice y1 n1 d1) g.routes,RusW.th b2 t2 (.slice y2 n2 d2) g.rules,NdsW.th b3 t3 (.slice y3 n3 d3) g.tree] U3):=by rw [hb3,ht3];exact Y3.out.more q ⟨⟨r,nlr⟩,trivial⟩
 have Oa3:Hid (P=w.heap.size∧R=P+1∧O=P+2∧O+1≤b1∧b1≤t1∧t1≤b2∧b2≤t2∧t2≤b3∧b3≤t3∧t3≤U3.heap.size):=by
  have h:=Ob2.out
  have h2:=q.size
  refine ⟨by omega,by omega,by omega,by omega,by omega,by omega,by omega,by omega,by omega,by omega⟩
 clear q r hb3 ht3 c5 Y3 Ob2 M3
 have e5:U3.cell? ⟨O,5,none⟩=some (.slice none 0 0):=Boxed.cell (show Boxed _ _ _ _ from T3.out.1.1) 5 rfl
 have f5:U3.frozen? ⟨O,5,none⟩=false:=Boxed.ice (show Boxed _ _ _ _ from T3.out.1.1) 5
 have hOl:O<U3.heap.size:=Boxed.under (show Boxed _ _ _ _ from T3.out.1.1)
 have off:OffT O (O+1) [Thing.box P (gc kd ex le (.slice x.a1 n1 x.c1) (.slice x.a2 n2 x.c2) (.slice x.a3 n3 x.c3) (.slice x.a4 n4 x.c4) mo (.slice x.a5 n5 x.c5) (.slice x.a6 n6 x.c6) nw (.slice x.a7 n7 x.c7) nx dr) 36,Thing.box R gz 50,RtsW.th b1 t1 (.slice y1 n1 d1) g.routes,RusW.th b2 t2 (.slice y2 n2 d2) g.rules,NdsW.th b3 t3 (.slice y3 n3 d3) g.tree]:=⟨(by show _∨_;have:=Oa3.out;left;show P+1≤O;omega),(by show _∨_;have:=Oa3.out;left;show R+1≤O;omega),(by show _∨_;have:=Oa3.out;right;show O+1≤b1;omega),(by show _∨_;have:=Oa3.out;right;show O+1≤b2;omega),(by show _∨_;have:=Oa3.out;right;show O+1≤b3;omega),trivial⟩
 have S4_0:Lies w [Thing.box O (gc kd ex le (.slice y1 n1 d1) (.slice y2 n2 d2) (.slice y3 n3 d3) (.slice none 0 0) 0 (.slice none 0 0) (.slice none 0 0) 0 (.slice none 0 0) 0 0) 50,Thing.box P (gc kd ex le (.slice x.a1 n1 x.c1) (.slice x.a2 n2 x.c2) (.slice x.a3 n3 x.c3) (.slice x.a4 n4 x.c4) mo (.slice x.a5 n5 x.c5) (.slice x.a6 n6 x.c6) nw (.slice x.a7 n7 x.c7) nx dr) 36,Thing.box R gz 50,RtsW.th b1 t1 (.slice y1 n1 d1) g.routes,RusW.th b2 t2 (.slice y2 n2 d2) g.rules,NdsW.th b3 t3 (.slice y3 n3 d3) g.tree] (U3.setCell ⟨O,5,none⟩ (.slice y3 n3 d3)):=lies_cell T3.out 5 (.slice y3 n3 d3) rfl off (by have:=Oa3.out;omega)
 have Y4:Hid (Lies w [Thing.box O (gc kd ex le (.slice y1 n1 d1) (.slice y2 n2 d2) (.slice y3 n3 d3) (.slice none 0 0) 0 (.slice none 0 0) (.slice none 0 0) 0 (.slice none 0 0) 0 0) 50,Thing.box P (gc kd ex le (.slice x.a1 n1 x.c1) (.slice x.a2 n2 x.c2) (.slice x.a3 n3 x.c3) (.slice x.a4 n4 x.c4) mo (.slice x.a5 n5 x.c5) (.slice x.a6 n6 x.c6) nw (.slice x.a7 n7 x.c7) nx dr) 36,Thing.box R gz 50,RtsW.th b1 t1 (.slice y1 n1 d1) g.routes,RusW.th b2 t2 (.slice y2 n2 d2) g.rules,NdsW.th b3 t3 (.slice y3 n3 d3) g.tree] (U3.setCell ⟨O,5,none⟩ (.slice y3 n3 d3))):=S4_0
 clear off S4_0
 have sz:(U3.setCell ⟨O,5,none⟩ (.slice y3 n3 d3)).heap.size=U3.heap.size:=by simp [World.setCell]
 have Sz:Hid (_=_):=sz
 clear sz
 go_upto_region 6 with fail
 generalize (U3.setCell ⟨O,5,none⟩ (.slice y3 n3 d3))=X4 at Y4 Sz ⊢
 clear hOl e5 f5 T3
 have Ob3:Hid (P=w.heap.size∧R=P+1∧O=P+2∧O+1≤b1∧b1≤t1∧t1≤b2∧b2≤t2∧t2≤b3∧b3≤t3∧t3≤X4.heap.size):=by rw [Sz.out];exact Oa3.out
 clear Sz Oa3
 have c6:X4.cell? ⟨P,6,none⟩=some (.slice x.a4 n4 x.c4):=Boxed.cell (show Boxed _ _ _ _ from Y4.out.1.2.1) 6 rfl
 go_wp2_with fail
 refine (M4.out _ (K.out _ Y4.out.2)).mono ?_
 rintro e U4 ⟨⟨y4,d4,rfl,r⟩,q⟩
 obtain ⟨b4,hb4⟩:∃ b,b=X4.heap.size:=⟨_,rfl⟩
 obtain ⟨t4,ht4⟩:∃ b,b=U4.heap.size:=⟨_,rfl⟩
 have T4:Hid (Lies w [Thing.box O (gc kd ex le (.slice y1 n1 d1) (.slice y2 n2 d2) (.slice y3 n3 d3) (.slice none 0 0) 0 (.slice none 0 0) (.slice none 0 0) 0 (.slice none 0 0) 0 0) 50,Thing.box P (gc kd ex le (.slice x.a1 n1 x.c1) (.slice x.a2 n2 x.c2) (.slice x.a3 n3 x.c3) (.slice x.a4 n4 x.c4) mo (.slice x.a5 n5 x.c5) (.slice x.a6 n6 x.c6) nw (.slice x.a7 n7 x.c7) nx dr) 36,Thing.box R gz 50,RtsW.th b1 t1 (.slice y1 n1 d1) g.routes,RusW.th b2 t2 (.slice y2 n2 d2) g.rules,NdsW.th b3 t3 (.slice y3 n3 d3) g.tree,IntsW.th b4 t4 (.slice y4 n4 d4) g.leaves] U4):=by rw [hb4,ht4];exact Y4.out.more q ⟨⟨r,nlr⟩,trivial⟩
 have Oa4:Hid (P=w.heap.size∧R=P+1∧O=P+2∧O+1≤b1∧b1≤t1∧t1≤b2∧b2≤t2∧t2≤b3∧b3≤t3∧t3≤b4∧b4≤t4∧t4≤U4.heap.size):=by
  have h:=Ob3.out
  have h2:=q.size
  refine ⟨by omega,by omega,by omega,by omega,by omega,by omega,by omega,by omega,by omega,by omega,by omega,by omega⟩
 clear q r hb4 ht4 c6 Y4 Ob3 M4
 have e6:U4.cell? ⟨O,6,none⟩=some (.slice none 0 0):=Boxed.cell (show Boxed _ _ _ _ from T4.out.1.1) 6 rfl
 have f6:U4.frozen? ⟨O,6,none⟩=false:=Boxed.ice (show Boxed _ _ _ _ from T4.out.1.1) 6
 have hOl:O<U4.heap.size:=Boxed.under (show Boxed _ _ _ _ from T4.out.1.1)
 have off:OffT O (O+1) [Thing.box P (gc kd ex le (.slice x.a1 n1 x.c1) (.slice x.a2 n2 x.c2) (.slice x.a3 n3 x.c3) (.slice x.a4 n4 x.c4) mo (.slice x.a5 n5 x.c5) (.slice x.a6 n6 x.c6) nw (.slice x.a7 n7 x.c7) nx dr) 36,Thing.box R gz 50,RtsW.th b1 t1 (.slice y1 n1 d1) g.routes,RusW.th b2 t2 (.slice y2 n2 d2) g.rules,NdsW.th b3 t3 (.slice y3 n3 d3) g.tree,IntsW.th b4 t4 (.slice y4 n4 d4) g.leaves]:=⟨(by show _∨_;have:=Oa4.out;left;show P+1≤O;omega),(by show _∨_;have:=Oa4.out;left;show R+1≤O;omega),(by show _∨_;have:=Oa4.out;right;show O+1≤b1;omega),(by show _∨_;have:=Oa4.out;right;show O+1≤b2;omega),(by show _∨_;have:=Oa4.out;right;show O+1≤b3;omega),(by show _∨_;have:=Oa4.out;right;show O+1≤b4;omega),trivial⟩
 have S5_0:Lies w [Thing.box O (gc kd ex le (.slice y1 n1 d1) (.slice y2 n2 d2) (.slice y3 n3 d3) (.slice y4 n4 d4) 0 (.slice none 0 0) (.slice none 0 0) 0 (.slice none 0 0) 0 0) 50,Thing.box P (gc kd ex le (.slice x.a1 n1 x.c1) (.slice x.a2 n2 x.c2) (.slice x.a3 n3 x.c3) (.slice x.a4 n4 x.c4) mo (.slice x.a5 n5 x.c5) (.slice x.a6 n6 x.c6) nw (.slice x.a7 n7 x.c7) nx dr) 36,Thing.box R gz 50,RtsW.th b1 t1 (.slice y1 n1 d1) g.routes,RusW.th b2 t2 (.slice y2 n2 d2) g.rules,NdsW.th b3 t3 (.slice y3 n3 d3) g.tree,IntsW.th b4 t4 (.slice y4 n4 d4) g.leaves] (U4.setCell ⟨O,6,none⟩ (.slice y4 n4 d4)):=lies_cell T4.out 6 (.slice y4 n4 d4) rfl off (by have:=Oa4.out;omega)
 have Y5:Hid (Lies w [Thing.box O (gc kd ex le (.slice y1 n1 d1) (.slice y2 n2 d2) (.slice y3 n3 d3) (.slice y4 n4 d4) 0 (.slice none 0 0) (.slice none 0 0) 0 (.slice none 0 0) 0 0) 50,Thing.box P (gc kd ex le (.slice x.a1 n1 x.c1) (.slice x.a2 n2 x.c2) (.slice x.a3 n3 x.c3) (.slice x.a4 n4 x.c4) mo (.slice x.a5 n5 x.c5) (.slice x.a6 n6 x.c6) nw (.slice x.a7 n7 x.c7) nx dr) 36,Thing.box R gz 50,RtsW.th b1 t1 (.slice y1 n1 d1) g.routes,RusW.th b2 t2 (.slice y2 n2 d2) g.rules,NdsW.th b3 t3 (.slice y3 n3 d3) g.tree,IntsW.th b4 t4 (.slice y4 n4 d4) g.leaves] (U4.setCell ⟨O,6,none⟩ (.slice y4 n4 d4))):=S5_0
 clear off S5_0
 have sz:(U4.setCell ⟨O,6,none⟩ (.slice y4 n4 d4)).heap.size=U4.heap.size:=by simp [World.setCell]
 have Sz:Hid (_=_):=sz
 clear sz
 go_upto_region 7 with fail
 generalize (U4.setCell ⟨O,6,none⟩ (.slice y4 n4 d4))=X5 at Y5 Sz ⊢
 clear hOl e6 f6 T4
 have Ob4:Hid (P=w.heap.size∧R=P+1∧O=P+2∧O+1≤b1∧b1≤t1∧t1≤b2∧b2≤t2∧t2≤b3∧b3≤t3∧t3≤b4∧b4≤t4∧t4≤X5.heap.size):=by rw [Sz.out];exact Oa4.out
 clear Sz Oa4
 have c7:X5.cell? ⟨P,7,none⟩=some (.int .i64 mo):=Boxed.cell (show Boxed _ _ _ _ from Y5.out.1.2.1) 7 rfl
 have c8:X5.cell? ⟨P,8,none⟩=some (.slice x.a5 n5 x.c5):=Boxed.cell (show Boxed _ _ _ _ from Y5.out.1.2.1) 8 rfl
 go_wp2_with fail
 refine (M5.out _ (K.out _ Y5.out.2)).mono ?_
 rintro e U5 ⟨⟨y5,d5,rfl,r⟩,q⟩
 obtain ⟨b5,hb5⟩:∃ b,b=X5.heap.size:=⟨_,rfl⟩
 obtain ⟨t5,ht5⟩:∃ b,b=U5.heap.size:=⟨_,rfl⟩
 have T5:Hid (Lies w [Thing.box O (gc kd ex le (.slice y1 n1 d1) (.slice y2 n2 d2) (.slice y3 n3 d3) (.slice y4 n4 d4) 0 (.slice none 0 0) (.slice none 0 0) 0 (.slice none 0 0) 0 0) 50,Thing.box P (gc kd ex le (.slice x.a1 n1 x.c1) (.slice x.a2 n2 x.c2) (.slice x.a3 n3 x.c3) (.slice x.a4 n4 x.c4) mo (.slice x.a5 n5 x.c5) (.slice x.a6 n6 x.c6) nw (.slice x.a7 n7 x.c7) nx dr) 36,Thing.box R gz 50,RtsW.th b1 t1 (.slice y1 n1 d1) g.routes,RusW.th b2 t2 (.slice y2 n2 d2) g.rules,NdsW.th b3 t3 (.slice y3 n3 d3) g.tree,IntsW.th b4 t4 (.slice y4 n4 d4) g.leaves,RwIn.th b5 t5 (.agg #[.int .i64 mo,.slice y5 n5 d5]) g.rows] U5):=by rw [hb5,ht5];exact Y5.out.more q ⟨⟨r,nlr⟩,trivial⟩
 have Oa5:Hid (P=w.heap.size∧R=P+1∧O=P+2∧O+1≤b1∧b1≤t1∧t1≤b2∧b2≤t2∧t2≤b3∧b3≤t3∧t3≤b4∧b4≤t4∧t4≤b5∧b5≤t5∧t5≤U5.heap.size):=by
  have h:=Ob4.out
  have h2:=q.size
  refine ⟨by omega,by omega,by omega,by omega,by omega,by omega,by omega,by omega,by omega,by omega,by omega,by omega,by omega,by omega⟩
 clear q r hb5 ht5 c7 c8 Y5 Ob4 M5
 have e7:U5.cell? ⟨O,7,none⟩=some (.int .i64 0):=Boxed.cell (show Boxed _ _ _ _ from T5.out.1.1) 7 rfl
 have f7:U5.frozen? ⟨O,7,none⟩=false:=Boxed.ice (show Boxed _ _ _ _ from T5.out.1.1) 7
 have e8:U5.cell? ⟨O,8,none⟩=some (.slice none 0 0):=Boxed.cell (show Boxed _ _ _ _ from T5.out.1.1) 8 rfl
 have f8:U5.frozen? ⟨O,8,none⟩=false:=Boxed.ice (show Boxed _ _ _ _ from T5.out.1.1) 8
 have hOl:O<U5.heap.size:=Boxed.under (show Boxed _ _ _ _ from T5.out.1.1)
 have off:OffT O (O+1) [Thing.box P (gc kd ex le (.slice x.a1 n1 x.c1) (.slice x.a2 n2 x.c2) (.slice x.a3 n3 x.c3) (.slice x.a4 n4 x.c4) mo (.slice x.a5 n5 x.c5) (.slice x.a6 n6 x.c6) nw (.slice x.a7 n7 x.c7) nx dr) 36,Thing.box R gz 50,RtsW.th b1 t1 (.slice y1 n1 d1) g.routes,RusW.th b2 t2 (.slice y2 n2 d2) g.rules,NdsW.th b3 t3 (.slice y3 n3 d3) g.tree,IntsW.th b4 t4 (.slice y4 n4 d4) g.leaves,RwIn.th b5 t5 (.agg #[.int .i64 mo,.slice y5 n5 d5]) g.rows]:=⟨(by show _∨_;have:=Oa5.out;left;show P+1≤O;omega),(by show _∨_;have:=Oa5.out;left;show R+1≤O;omega),(by show _∨_;have:=Oa5.out;right;show O+1≤b1;omega),(by show _∨_;have:=Oa5.out;right;show O+1≤b2;omega),(by show _∨_;have:=Oa5.out;right;show O+1≤b3;omega),(by show _∨_;have:=Oa5.out;right;show O+1≤b4;omega),(by show _∨_;have:=Oa5.out;right;show O+1≤b5;omega),trivial⟩
 have S6_0:Lies w [Thing.box O (gc kd ex le (.slice y1 n1 d1) (.slice y2 n2 d2) (.slice y3 n3 d3) (.slice y4 n4 d4) mo (.slice none 0 0) (.slice none 0 0) 0 (.slice none 0 0) 0 0) 50,Thing.box P (gc kd ex le (.slice x.a1 n1 x.c1) (.slice x.a2 n2 x.c2) (.slice x.a3 n3 x.c3) (.slice x.a4 n4 x.c4) mo (.slice x.a5 n5 x.c5) (.slice x.a6 n6 x.c6) nw (.slice x.a7 n7 x.c7) nx dr) 36,Thing.box R gz 50,RtsW.th b1 t1 (.slice y1 n1 d1) g.routes,RusW.th b2 t2 (.slice y2 n2 d2) g.rules,NdsW.th b3 t3 (.slice y3 n3 d3) g.tree,IntsW.th b4 t4 (.slice y4 n4 d4) g.leaves,RwIn.th b5 t5 (.agg #[.int .i64 mo,.slice y5 n5 d5]) g.rows] (U5.setCell ⟨O,7,none⟩ (.int .i64 mo)):=lies_cell T5.out 7 (.int .i64 mo) rfl off (by have:=Oa5.out;omega)
 have S6_1:Lies w [Thing.box O (gc kd ex le (.slice y1 n1 d1) (.slice y2 n2 d2) (.slice y3 n3 d3) (.slice y4 n4 d4) mo (.slice y5 n5 d5) (.slice none 0 0) 0 (.slice none 0 0) 0 0) 50,Thing.box P (gc kd ex le (.slice x.a1 n1 x.c1) (.slice x.a2 n2 x.c2) (.slice x.a3 n3 x.c3) (.slice x.a4 n4 x.c4) mo (.slice x.a5 n5 x.c5) (.slice x.a6 n6 x.c6) nw (.slice x.a7 n7 x.c7) nx dr) 36,Thing.box R gz 50,RtsW.th b1 t1 (.slice y1 n1 d1) g.routes,RusW.th b2 t2 (.slice y2 n2 d2) g.rules,NdsW.th b3 t3 (.slice y3 n3 d3) g.tree,IntsW.th b4 t4 (.slice y4 n4 d4) g.leaves,RwIn.th b5 t5 (.agg #[.int .i64 mo,.slice y5 n5 d5]) g.rows] ((U5.setCell ⟨O,7,none⟩ (.int .i64 mo)).setCell ⟨O,8,none⟩ (.slice y5 n5 d5)):=lies_cell S6_0 8 (.slice y5 n5 d5) rfl off (by have:=Oa5.out;omega)
 have Y6:Hid (Lies w [Thing.box O (gc kd ex le (.slice y1 n1 d1) (.slice y2 n2 d2) (.slice y3 n3 d3) (.slice y4 n4 d4) mo (.slice y5 n5 d5) (.slice none 0 0) 0 (.slice none 0 0) 0 0) 50,Thing.box P (gc kd ex le (.slice x.a1 n1 x.c1) (.slice x.a2 n2 x.c2) (.slice x.a3 n3 x.c3) (.slice x.a4 n4 x.c4) mo (.slice x.a5 n5 x.c5) (.slice x.a6 n6 x.c6) nw (.slice x.a7 n7 x.c7) nx dr) 36,Thing.box R gz 50,RtsW.th b1 t1 (.slice y1 n1 d1) g.routes,RusW.th b2 t2 (.slice y2 n2 d2) g.rules,NdsW.th b3 t3 (.slice y3 n3 d3) g.tree,IntsW.th b4 t4 (.slice y4 n4 d4) g.leaves,RwIn.th b5 t5 (.agg #[.int .i64 mo,.slice y5 n5 d5]) g.rows] ((U5.setCell ⟨O,7,none⟩ (.int .i64 mo)).setCell ⟨O,8,none⟩ (.slice y5 n5 d5))):=S6_1
 clear off S6_0 S6_1
 have sz:((U5.setCell ⟨O,7,none⟩ (.int .i64 mo)).setCell ⟨O,8,none⟩ (.slice y5 n5 d5)).heap.size=U5.heap.size:=by simp [World.setCell]
 have Sz:Hid (_=_):=sz
 clear sz
 go_upto_region 8 with fail
 generalize ((U5.setCell ⟨O,7,none⟩ (.int .i64 mo)).setCell ⟨O,8,none⟩ (.slice y5 n5 d5))=X6 at Y6 Sz ⊢
 clear hOl e7 f7 e8 f8 T5
 have Ob5:Hid (P=w.heap.size∧R=P+1∧O=P+2∧O+1≤b1∧b1≤t1∧t1≤b2∧b2≤t2∧t2≤b3∧b3≤t3∧t3≤b4∧b4≤t4∧t4≤b5∧b5≤t5∧t5≤X6.heap.size):=by rw [Sz.out];exact Oa5.out
 clear Sz Oa5
 have c9:X6.cell? ⟨P,9,none⟩=some (.slice x.a6 n6 x.c6):=Boxed.cell (show Boxed _ _ _ _ from Y6.out.1.2.1) 9 rfl
 go_wp2_with fail
 refine (M6.out _ (K.out _ Y6.out.2)).mono ?_
 rintro e U6 ⟨⟨y6,d6,rfl,r⟩,q⟩
 obtain ⟨b6,hb6⟩:∃ b,b=X6.heap.size:=⟨_,rfl⟩
 obtain ⟨t6,ht6⟩:∃ b,b=U6.heap.size:=⟨_,rfl⟩
 have T6:Hid (Lies w [Thing.box O (gc kd ex le (.slice y1 n1 d1) (.slice y2 n2 d2) (.slice y3 n3 d3) (.slice y4 n4 d4) mo (.slice y5 n5 d5) (.slice none 0 0) 0 (.slice none 0 0) 0 0) 50,Thing.box P (gc kd ex le (.slice x.a1 n1 x.c1) (.slice x.a2 n2 x.c2) (.slice x.a3 n3 x.c3) (.slice x.a4 n4 x.c4) mo (.slice x.a5 n5 x.c5) (.slice x.a6 n6 x.c6) nw (.slice x.a7 n7 x.c7) nx dr) 36,Thing.box R gz 50,RtsW.th b1 t1 (.slice y1 n1 d1) g.routes,RusW.th b2 t2 (.slice y2 n2 d2) g.rules,NdsW.th b3 t3 (.slice y3 n3 d3) g.tree,IntsW.th b4 t4 (.slice y4 n4 d4) g.leaves,RwIn.th b5 t5 (.agg #[.int .i64 mo,.slice y5 n5 d5]) g.rows,SrsW.th b6 t6 (.slice y6 n6 d6) g.steers] U6):=by rw [hb6,ht6];exact Y6.out.more q ⟨⟨r,nlr⟩,trivial⟩
 have Oa6:Hid (P=w.heap.size∧R=P+1∧O=P+2∧O+1≤b1∧b1≤t1∧t1≤b2∧b2≤t2∧t2≤b3∧b3≤t3∧t3≤b4∧b4≤t4∧t4≤b5∧b5≤t5∧t5≤b6∧b6≤t6∧t6≤U6.heap.size):=by
  have h:=Ob5.out
  have h2:=q.size
  refine ⟨by omega,by omega,by omega,by omega,by omega,by omega,by omega,by omega,by omega,by omega,by omega,by omega,by omega,by omega,by omega,by omega⟩
 clear q r hb6 ht6 c9 Y6 Ob5 M6
 have e9:U6.cell? ⟨O,9,none⟩=some (.slice none 0 0):=Boxed.cell (show Boxed _ _ _ _ from T6.out.1.1) 9 rfl
 have f9:U6.frozen? ⟨O,9,none⟩=false:=Boxed.ice (show Boxed _ _ _ _ from T6.out.1.1) 9
 have hOl:O<U6.heap.size:=Boxed.under (show Boxed _ _ _ _ from T6.out.1.1)
 have off:OffT O (O+1) [Thing.box P (gc kd ex le (.slice x.a1 n1 x.c1) (.slice x.a2 n2 x.c2) (.slice x.a3 n3 x.c3) (.slice x.a4 n4 x.c4) mo (.slice x.a5 n5 x.c5) (.slice x.a6 n6 x.c6) nw (.slice x.a7 n7 x.c7) nx dr) 36,Thing.box R gz 50,RtsW.th b1 t1 (.slice y1 n1 d1) g.routes,RusW.th b2 t2 (.slice y2 n2 d2) g.rules,NdsW.th b3 t3 (.slice y3 n3 d3) g.tree,IntsW.th b4 t4 (.slice y4 n4 d4) g.leaves,RwIn.th b5 t5 (.agg #[.int .i64 mo,.slice y5 n5 d5]) g.rows,SrsW.th b6 t6 (.slice y6 n6 d6) g.steers]:=⟨(by show _∨_;have:=Oa6.out;left;show P+1≤O;omega),(by show _∨_;have:=Oa6.out;left;show R+1≤O;omega),(by show _∨_;have:=Oa6.out;right;show O+1≤b1;omega),(by show _∨_;have:=Oa6.out;right;show O+1≤b2;omega),(by show _∨_;have:=Oa6.out;right;show O+1≤b3;omega),(by show _∨_;have:=Oa6.out;right;show O+1≤b4;omega),(by show _∨_;have:=Oa6.out;right;show O+1≤b5;omega),(by show _∨_;have:=Oa6.out;right;show O+1≤b6;omega),trivial⟩
 have S7_0:Lies w [Thing.box O (gc kd ex le (.slice y1 n1 d1) (.slice y2 n2 d2) (.slice y3 n3 d3) (.slice y4 n4 d4) mo (.slice y5 n5 d5) (.slice y6 n6 d6) 0 (.slice none 0 0) 0 0) 50,Thing.box P (gc kd ex le (.slice x.a1 n1 x.c1) (.slice x.a2 n2 x.c2) (.slice x.a3 n3 x.c3) (.slice x.a4 n4 x.c4) mo (.slice x.a5 n5 x.c5) (.slice x.a6 n6 x.c6) nw (.slice x.a7 n7 x.c7) nx dr) 36,Thing.box R gz 50,RtsW.th b1 t1 (.slice y1 n1 d1) g.routes,RusW.th b2 t2 (.slice y2 n2 d2) g.rules,NdsW.th b3 t3 (.slice y3 n3 d3) g.tree,IntsW.th b4 t4 (.slice y4 n4 d4) g.leaves,RwIn.th b5 t5 (.agg #[.int .i64 mo,.slice y5 n5 d5]) g.rows,SrsW.th b6 t6 (.slice y6 n6 d6) g.steers] (U6.setCell ⟨O,9,none⟩ (.slice y6 n6 d6)):=lies_cell T6.out 9 (.slice y6 n6 d6) rfl off (by have:=Oa6.out;omega)
 have Y7:Hid (Lies w [Thing.box O (gc kd ex le (.slice y1 n1 d1) (.slice y2 n2 d2) (.slice y3 n3 d3) (.slice y4 n4 d4) mo (.slice y5 n5 d5) (.slice y6 n6 d6) 0 (.slice none 0 0) 0 0) 50,Thing.box P (gc kd ex le (.slice x.a1 n1 x.c1) (.slice x.a2 n2 x.c2) (.slice x.a3 n3 x.c3) (.slice x.a4 n4 x.c4) mo (.slice x.a5 n5 x.c5) (.slice x.a6 n6 x.c6) nw (.slice x.a7 n7 x.c7) nx dr) 36,Thing.box R gz 50,RtsW.th b1 t1 (.slice y1 n1 d1) g.routes,RusW.th b2 t2 (.slice y2 n2 d2) g.rules,NdsW.th b3 t3 (.slice y3 n3 d3) g.tree,IntsW.th b4 t4 (.slice y4 n4 d4) g.leaves,RwIn.th b5 t5 (.agg #[.int .i64 mo,.slice y5 n5 d5]) g.rows,SrsW.th b6 t6 (.slice y6 n6 d6) g.steers] (U6.setCell ⟨O,9,none⟩ (.slice y6 n6 d6))):=S7_0
 clear off S7_0
 have sz:(U6.setCell ⟨O,9,none⟩ (.slice y6 n6 d6)).heap.size=U6.heap.size:=by simp [World.setCell]
 have Sz:Hid (_=_):=sz
 clear sz
 go_upto_region 9 with fail
 generalize (U6.setCell ⟨O,9,none⟩ (.slice y6 n6 d6))=X7 at Y7 Sz ⊢
 clear hOl e9 f9 T6
 have Ob6:Hid (P=w.heap.size∧R=P+1∧O=P+2∧O+1≤b1∧b1≤t1∧t1≤b2∧b2≤t2∧t2≤b3∧b3≤t3∧t3≤b4∧b4≤t4∧t4≤b5∧b5≤t5∧t5≤b6∧b6≤t6∧t6≤X7.heap.size):=by rw [Sz.out];exact Oa6.out
 clear Sz Oa6
 have c10:X7.cell? ⟨P,10,none⟩=some (.int .i64 nw):=Boxed.cell (show Boxed _ _ _ _ from Y7.out.1.2.1) 10 rfl
 have c11:X7.cell? ⟨P,11,none⟩=some (.slice x.a7 n7 x.c7):=Boxed.cell (show Boxed _ _ _ _ from Y7.out.1.2.1) 11 rfl
 go_wp2_with fail
 refine (M7.out _ (K.out _ Y7.out.2)).mono ?_
 rintro e U7 ⟨⟨y7,d7,rfl,r⟩,q⟩
 obtain ⟨b7,hb7⟩:∃ b,b=X7.heap.size:=⟨_,rfl⟩
 obtain ⟨t7,ht7⟩:∃ b,b=U7.heap.size:=⟨_,rfl⟩
 have T7:Hid (Lies w [Thing.box O (gc kd ex le (.slice y1 n1 d1) (.slice y2 n2 d2) (.slice y3 n3 d3) (.slice y4 n4 d4) mo (.slice y5 n5 d5) (.slice y6 n6 d6) 0 (.slice none 0 0) 0 0) 50,Thing.box P (gc kd ex le (.slice x.a1 n1 x.c1) (.slice x.a2 n2 x.c2) (.slice x.a3 n3 x.c3) (.slice x.a4 n4 x.c4) mo (.slice x.a5 n5 x.c5) (.slice x.a6 n6 x.c6) nw (.slice x.a7 n7 x.c7) nx dr) 36,Thing.box R gz 50,RtsW.th b1 t1 (.slice y1 n1 d1) g.routes,RusW.th b2 t2 (.slice y2 n2 d2) g.rules,NdsW.th b3 t3 (.slice y3 n3 d3) g.tree,IntsW.th b4 t4 (.slice y4 n4 d4) g.leaves,RwIn.th b5 t5 (.agg #[.int .i64 mo,.slice y5 n5 d5]) g.rows,SrsW.th b6 t6 (.slice y6 n6 d6) g.steers,FsIn.th b7 t7 (.agg #[.int .i64 nw,.slice y7 n7 d7]) g.fair] U7):=by rw [hb7,ht7];exact Y7.out.more q ⟨⟨r,nlr⟩,trivial⟩
 have Oa7:Hid (P=w.heap.size∧R=P+1∧O=P+2∧O+1≤b1∧b1≤t1∧t1≤b2∧b2≤t2∧t2≤b3∧b3≤t3∧t3≤b4∧b4≤t4∧t4≤b5∧b5≤t5∧t5≤b6∧b6≤t6∧t6≤b7∧b7≤t7∧t7≤U7.heap.size):=by
  have h:=Ob6.out
  have h2:=q.size
  refine ⟨by omega,by omega,by omega,by omega,by omega,by omega,by omega,by omega,by omega,by omega,by omega,by omega,by omega,by omega,by omega,by omega,by omega,by omega⟩
 clear q r hb7 ht7 c10 c11 Y7 Ob6 M7
 have e10:U7.cell? ⟨O,10,none⟩=some (.int .i64 0):=Boxed.cell (show Boxed _ _ _ _ from T7.out.1.1) 10 rfl
 have f10:U7.frozen? ⟨O,10,none⟩=false:=Boxed.ice (show Boxed _ _ _ _ from T7.out.1.1) 10
 have e11:U7.cell? ⟨O,11,none⟩=some (.slice none 0 0):=Boxed.cell (show Boxed _ _ _ _ from T7.out.1.1) 11 rfl
 have f11:U7.frozen? ⟨O,11,none⟩=false:=Boxed.ice (show Boxed _ _ _ _ from T7.out.1.1) 11
 have hOl:O<U7.heap.size:=Boxed.under (show Boxed _ _ _ _ from T7.out.1.1)
 have off:OffT O (O+1) [Thing.box P (gc kd ex le (.slice x.a1 n1 x.c1) (.slice x.a2 n2 x.c2) (.slice x.a3 n3 x.c3) (.slice x.a4 n4 x.c4) mo (.slice x.a5 n5 x.c5) (.slice x.a6 n6 x.c6) nw (.slice x.a7 n7 x.c7) nx dr) 36,Thing.box R gz 50,RtsW.th b1 t1 (.slice y1 n1 d1) g.routes,RusW.th b2 t2 (.slice y2 n2 d2) g.rules,NdsW.th b3 t3 (.slice y3 n3 d3) g.tree,IntsW.th b4 t4 (.slice y4 n4 d4) g.leaves,RwIn.th b5 t5 (.agg #[.int .i64 mo,.slice y5 n5 d5]) g.rows,SrsW.th b6 t6 (.slice y6 n6 d6) g.steers,FsIn.th b7 t7 (.agg #[.int .i64 nw,.slice y7 n7 d7]) g.fair]:=⟨(by show _∨_;have:=Oa7.out;left;show P+1≤O;omega),(by show _∨_;have:=Oa7.out;left;show R+1≤O;omega),(by show _∨_;have:=Oa7.out;right;show O+1≤b1;omega),(by show _∨_;have:=Oa7.out;right;show O+1≤b2;omega),(by show _∨_;have:=Oa7.out;right;show O+1≤b3;omega),(by show _∨_;have:=Oa7.out;right;show O+1≤b4;omega),(by show _∨_;have:=Oa7.out;right;show O+1≤b5;omega),(by show _∨_;have:=Oa7.out;right;show O+1≤b6;omega),(by show _∨_;have:=Oa7.out;right;show O+1≤b7;omega),trivial⟩
 have S8_0:Lies w [Thing.box O (gc kd ex le (.slice y1 n1 d1) (.slice y2 n2 d2) (.slice y3 n3 d3) (.slice y4 n4 d4) mo (.slice y5 n5 d5) (.slice y6 n6 d6) nw (.slice none 0 0) 0 0) 50,Thing.box P (gc kd ex le (.slice x.a1 n1 x.c1) (.slice x.a2 n2 x.c2) (.slice x.a3 n3 x.c3) (.slice x.a4 n4 x.c4) mo (.slice x.a5 n5 x.c5) (.slice x.a6 n6 x.c6) nw (.slice x.a7 n7 x.c7) nx dr) 36,Thing.box R gz 50,RtsW.th b1 t1 (.slice y1 n1 d1) g.routes,RusW.th b2 t2 (.slice y2 n2 d2) g.rules,NdsW.th b3 t3 (.slice y3 n3 d3) g.tree,IntsW.th b4 t4 (.slice y4 n4 d4) g.leaves,RwIn.th b5 t5 (.agg #[.int .i64 mo,.slice y5 n5 d5]) g.rows,SrsW.th b6 t6 (.slice y6 n6 d6) g.steers,FsIn.th b7 t7 (.agg #[.int .i64 nw,.slice y7 n7 d7]) g.fair] (U7.setCell ⟨O,10,none⟩ (.int .i64 nw)):=lies_cell T7.out 10 (.int .i64 nw) rfl off (by have:=Oa7.out;omega)
 have S8_1:Lies w [Thing.box O (gc kd ex le (.slice y1 n1 d1) (.slice y2 n2 d2) (.slice y3 n3 d3) (.slice y4 n4 d4) mo (.slice y5 n5 d5) (.slice y6 n6 d6) nw (.slice y7 n7 d7) 0 0) 50,Thing.box P (gc kd ex le (.slice x.a1 n1 x.c1) (.slice x.a2 n2 x.c2) (.slice x.a3 n3 x.c3) (.slice x.a4 n4 x.c4) mo (.slice x.a5 n5 x.c5) (.slice x.a6 n6 x.c6) nw (.slice x.a7 n7 x.c7) nx dr) 36,Thing.box R gz 50,RtsW.th b1 t1 (.slice y1 n1 d1) g.routes,RusW.th b2 t2 (.slice y2 n2 d2) g.rules,NdsW.th b3 t3 (.slice y3 n3 d3) g.tree,IntsW.th b4 t4 (.slice y4 n4 d4) g.leaves,RwIn.th b5 t5 (.agg #[.int .i64 mo,.slice y5 n5 d5]) g.rows,SrsW.th b6 t6 (.slice y6 n6 d6) g.steers,FsIn.th b7 t7 (.agg #[.int .i64 nw,.slice y7 n7 d7]) g.fair] ((U7.setCell ⟨O,10,none⟩ (.int .i64 nw)).setCell ⟨O,11,none⟩ (.slice y7 n7 d7)):=lies_cell S8_0 11 (.slice y7 n7 d7) rfl off (by have:=Oa7.out;omega)
 have Y8:Hid (Lies w [Thing.box O (gc kd ex le (.slice y1 n1 d1) (.slice y2 n2 d2) (.slice y3 n3 d3) (.slice y4 n4 d4) mo (.slice y5 n5 d5) (.slice y6 n6 d6) nw (.slice y7 n7 d7) 0 0) 50,Thing.box P (gc kd ex le (.slice x.a1 n1 x.c1) (.slice x.a2 n2 x.c2) (.slice x.a3 n3 x.c3) (.slice x.a4 n4 x.c4) mo (.slice x.a5 n5 x.c5) (.slice x.a6 n6 x.c6) nw (.slice x.a7 n7 x.c7) nx dr) 36,Thing.box R gz 50,RtsW.th b1 t1 (.slice y1 n1 d1) g.routes,RusW.th b2 t2 (.slice y2 n2 d2) g.rules,NdsW.th b3 t3 (.slice y3 n3 d3) g.tree,IntsW.th b4 t4 (.slice y4 n4 d4) g.leaves,RwIn.th b5 t5 (.agg #[.int .i64 mo,.slice y5 n5 d5]) g.rows,SrsW.th b6 t6 (.slice y6 n6 d6) g.steers,FsIn.th b7 t7 (.agg #[.int .i64 nw,.slice y7 n7 d7]) g.fair] ((U7.setCell ⟨O,10,none⟩ (.int .i64 nw)).setCell ⟨O,11,none⟩ (.slice y7 n7 d7))):=S8_1
 clear off S8_0 S8_1
 have sz:((U7.setCell ⟨O,10,none⟩ (.int .i64 nw)).setCell ⟨O,11,none⟩ (.slice y7 n7 d7)).heap.size=U7.heap.size:=by simp [World.setCell]
 have Sz:Hid (_=_):=sz
 clear sz
 go_upto_region 10 with fail
 generalize ((U7.setCell ⟨O,10,none⟩ (.int .i64 nw)).setCell ⟨O,11,none⟩ (.slice y7 n7 d7))=X8 at Y8 Sz ⊢
 clear hOl e10 f10 e11 f11 T7
 have Ob7:Hid (P=w.heap.size∧R=P+1∧O=P+2∧O+1≤b1∧b1≤t1∧t1≤b2∧b2≤t2∧t2≤b3∧b3≤t3∧t3≤b4∧b4≤t4∧t4≤b5∧b5≤t5∧t5≤b6∧b6≤t6∧t6≤b7∧b7≤t7∧t7≤X8.heap.size):=by rw [Sz.out];exact Oa7.out
 clear Sz Oa7
 have c12:X8.cell? ⟨P,12,none⟩=some (.int .i64 nx):=Boxed.cell (show Boxed _ _ _ _ from Y8.out.1.2.1) 12 rfl
 have e12:X8.cell? ⟨O,12,none⟩=some (.int .i64 0):=Boxed.cell (show Boxed _ _ _ _ from Y8.out.1.1) 12 rfl
 have f12:X8.frozen? ⟨O,12,none⟩=false:=Boxed.ice (show Boxed _ _ _ _ from Y8.out.1.1) 12
 have hOl:O<X8.heap.size:=Boxed.under (show Boxed _ _ _ _ from Y8.out.1.1)
 have off:OffT O (O+1) [Thing.box P (gc kd ex le (.slice x.a1 n1 x.c1) (.slice x.a2 n2 x.c2) (.slice x.a3 n3 x.c3) (.slice x.a4 n4 x.c4) mo (.slice x.a5 n5 x.c5) (.slice x.a6 n6 x.c6) nw (.slice x.a7 n7 x.c7) nx dr) 36,Thing.box R gz 50,RtsW.th b1 t1 (.slice y1 n1 d1) g.routes,RusW.th b2 t2 (.slice y2 n2 d2) g.rules,NdsW.th b3 t3 (.slice y3 n3 d3) g.tree,IntsW.th b4 t4 (.slice y4 n4 d4) g.leaves,RwIn.th b5 t5 (.agg #[.int .i64 mo,.slice y5 n5 d5]) g.rows,SrsW.th b6 t6 (.slice y6 n6 d6) g.steers,FsIn.th b7 t7 (.agg #[.int .i64 nw,.slice y7 n7 d7]) g.fair]:=⟨(by show _∨_;have:=Ob7.out;left;show P+1≤O;omega),(by show _∨_;have:=Ob7.out;left;show R+1≤O;omega),(by show _∨_;have:=Ob7.out;right;show O+1≤b1;omega),(by show _∨_;have:=Ob7.out;right;show O+1≤b2;omega),(by show _∨_;have:=Ob7.out;right;show O+1≤b3;omega),(by show _∨_;have:=Ob7.out;right;show O+1≤b4;omega),(by show _∨_;have:=Ob7.out;right;show O+1≤b5;omega),(by show _∨_;have:=Ob7.out;right;show O+1≤b6;omega),(by show _∨_;have:=Ob7.out;right;show O+1≤b7;omega),trivial⟩
 have S9_0:Lies w [Thing.box O (gc kd ex le (.slice y1 n1 d1) (.slice y2 n2 d2) (.slice y3 n3 d3) (.slice y4 n4 d4) mo (.slice y5 n5 d5) (.slice y6 n6 d6) nw (.slice y7 n7 d7) nx 0) 50,Thing.box P (gc kd ex le (.slice x.a1 n1 x.c1) (.slice x.a2 n2 x.c2) (.slice x.a3 n3 x.c3) (.slice x.a4 n4 x.c4) mo (.slice x.a5 n5 x.c5) (.slice x.a6 n6 x.c6) nw (.slice x.a7 n7 x.c7) nx dr) 36,Thing.box R gz 50,RtsW.th b1 t1 (.slice y1 n1 d1) g.routes,RusW.th b2 t2 (.slice y2 n2 d2) g.rules,NdsW.th b3 t3 (.slice y3 n3 d3) g.tree,IntsW.th b4 t4 (.slice y4 n4 d4) g.leaves,RwIn.th b5 t5 (.agg #[.int .i64 mo,.slice y5 n5 d5]) g.rows,SrsW.th b6 t6 (.slice y6 n6 d6) g.steers,FsIn.th b7 t7 (.agg #[.int .i64 nw,.slice y7 n7 d7]) g.fair] (X8.setCell ⟨O,12,none⟩ (.int .i64 nx)):=lies_cell Y8.out 12 (.int .i64 nx) rfl off (by have:=Ob7.out;omega)
 have Y9:Hid (Lies w [Thing.box O (gc kd ex le (.slice y1 n1 d1) (.slice y2 n2 d2) (.slice y3 n3 d3) (.slice y4 n4 d4) mo (.slice y5 n5 d5) (.slice y6 n6 d6) nw (.slice y7 n7 d7) nx 0) 50,Thing.box P (gc kd ex le (.slice x.a1 n1 x.c1) (.slice x.a2 n2 x.c2) (.slice x.a3 n3 x.c3) (.slice x.a4 n4 x.c4) mo (.slice x.a5 n5 x.c5) (.slice x.a6 n6 x.c6) nw (.slice x.a7 n7 x.c7) nx dr) 36,Thing.box R gz 50,RtsW.th b1 t1 (.slice y1 n1 d1) g.routes,RusW.th b2 t2 (.slice y2 n2 d2) g.rules,NdsW.th b3 t3 (.slice y3 n3 d3) g.tree,IntsW.th b4 t4 (.slice y4 n4 d4) g.leaves,RwIn.th b5 t5 (.agg #[.int .i64 mo,.slice y5 n5 d5]) g.rows,SrsW.th b6 t6 (.slice y6 n6 d6) g.steers,FsIn.th b7 t7 (.agg #[.int .i64 nw,.slice y7 n7 d7]) g.fair] (X8.setCell ⟨O,12,none⟩ (.int .i64 nx))):=S9_0
 clear off S9_0
 have sz:(X8.setCell ⟨O,12,none⟩ (.int .i64 nx)).heap.size=X8.heap.size:=by simp [World.setCell]
 have Sz:Hid (_=_):=sz
 clear sz
 go_upto_region 11 with fail
 generalize (X8.setCell ⟨O,12,none⟩ (.int .i64 nx))=X9 at Y9 Sz ⊢
 clear hOl e12 f12 Y8
 have Oc12:Hid (P=w.heap.size∧R=P+1∧O=P+2∧O+1≤b1∧b1≤t1∧t1≤b2∧b2≤t2∧t2≤b3∧b3≤t3∧t3≤b4∧b4≤t4∧t4≤b5∧b5≤t5∧t5≤b6∧b6≤t6∧t6≤b7∧b7≤t7∧t7≤X9.heap.size):=by rw [Sz.out];exact Ob7.out
 clear Sz Ob7 c12
 have c13:X9.cell? ⟨P,13,none⟩=some (.int .i64 dr):=Boxed.cell (show Boxed _ _ _ _ from Y9.out.1.2.1) 13 rfl
 have e13:X9.cell? ⟨O,13,none⟩=some (.int .i64 0):=Boxed.cell (show Boxed _ _ _ _ from Y9.out.1.1) 13 rfl
 have f13:X9.frozen? ⟨O,13,none⟩=false:=Boxed.ice (show Boxed _ _ _ _ from Y9.out.1.1) 13
 have hOl:O<X9.heap.size:=Boxed.under (show Boxed _ _ _ _ from Y9.out.1.1)
 have off:OffT O (O+1) [Thing.box P (gc kd ex le (.slice x.a1 n1 x.c1) (.slice x.a2 n2 x.c2) (.slice x.a3 n3 x.c3) (.slice x.a4 n4 x.c4) mo (.slice x.a5 n5 x.c5) (.slice x.a6 n6 x.c6) nw (.slice x.a7 n7 x.c7) nx dr) 36,Thing.box R gz 50,RtsW.th b1 t1 (.slice y1 n1 d1) g.routes,RusW.th b2 t2 (.slice y2 n2 d2) g.rules,NdsW.th b3 t3 (.slice y3 n3 d3) g.tree,IntsW.th b4 t4 (.slice y4 n4 d4) g.leaves,RwIn.th b5 t5 (.agg #[.int .i64 mo,.slice y5 n5 d5]) g.rows,SrsW.th b6 t6 (.slice y6 n6 d6) g.steers,FsIn.th b7 t7 (.agg #[.int .i64 nw,.slice y7 n7 d7]) g.fair]:=⟨(by show _∨_;have:=Oc12.out;left;show P+1≤O;omega),(by show _∨_;have:=Oc12.out;left;show R+1≤O;omega),(by show _∨_;have:=Oc12.out;right;show O+1≤b1;omega),(by show _∨_;have:=Oc12.out;right;show O+1≤b2;omega),(by show _∨_;have:=Oc12.out;right;show O+1≤b3;omega),(by show _∨_;have:=Oc12.out;right;show O+1≤b4;omega),(by show _∨_;have:=Oc12.out;right;show O+1≤b5;omega),(by show _∨_;have:=Oc12.out;right;show O+1≤b6;omega),(by show _∨_;have:=Oc12.out;right;show O+1≤b7;omega),trivial⟩
 have S10_0:Lies w [Thing.box O (gc kd ex le (.slice y1 n1 d1) (.slice y2 n2 d2) (.slice y3 n3 d3) (.slice y4 n4 d4) mo (.slice y5 n5 d5) (.slice y6 n6 d6) nw (.slice y7 n7 d7) nx dr) 50,Thing.box P (gc kd ex le (.slice x.a1 n1 x.c1) (.slice x.a2 n2 x.c2) (.slice x.a3 n3 x.c3) (.slice x.a4 n4 x.c4) mo (.slice x.a5 n5 x.c5) (.slice x.a6 n6 x.c6) nw (.slice x.a7 n7 x.c7) nx dr) 36,Thing.box R gz 50,RtsW.th b1 t1 (.slice y1 n1 d1) g.routes,RusW.th b2 t2 (.slice y2 n2 d2) g.rules,NdsW.th b3 t3 (.slice y3 n3 d3) g.tree,IntsW.th b4 t4 (.slice y4 n4 d4) g.leaves,RwIn.th b5 t5 (.agg #[.int .i64 mo,.slice y5 n5 d5]) g.rows,SrsW.th b6 t6 (.slice y6 n6 d6) g.steers,FsIn.th b7 t7 (.agg #[.int .i64 nw,.slice y7 n7 d7]) g.fair] (X9.setCell ⟨O,13,none⟩ (.int .i64 dr)):=lies_cell Y9.out 13 (.int .i64 dr) rfl off (by have:=Oc12.out;omega)
 have Y10:Hid (Lies w [Thing.box O (gc kd ex le (.slice y1 n1 d1) (.slice y2 n2 d2) (.slice y3 n3 d3) (.slice y4 n4 d4) mo (.slice y5 n5 d5) (.slice y6 n6 d6) nw (.slice y7 n7 d7) nx dr) 50,Thing.box P (gc kd ex le (.slice x.a1 n1 x.c1) (.slice x.a2 n2 x.c2) (.slice x.a3 n3 x.c3) (.slice x.a4 n4 x.c4) mo (.slice x.a5 n5 x.c5) (.slice x.a6 n6 x.c6) nw (.slice x.a7 n7 x.c7) nx dr) 36,Thing.box R gz 50,RtsW.th b1 t1 (.slice y1 n1 d1) g.routes,RusW.th b2 t2 (.slice y2 n2 d2) g.rules,NdsW.th b3 t3 (.slice y3 n3 d3) g.tree,IntsW.th b4 t4 (.slice y4 n4 d4) g.leaves,RwIn.th b5 t5 (.agg #[.int .i64 mo,.slice y5 n5 d5]) g.rows,SrsW.th b6 t6 (.slice y6 n6 d6) g.steers,FsIn.th b7 t7 (.agg #[.int .i64 nw,.slice y7 n7 d7]) g.fair] (X9.setCell ⟨O,13,none⟩ (.int .i64 dr))):=S10_0
 clear off S10_0
 have sz:(X9.setCell ⟨O,13,none⟩ (.int .i64 dr)).heap.size=X9.heap.size:=by simp [World.setCell]
 have Sz:Hid (_=_):=sz
 clear sz
 go_upto_region 12 with fail
 generalize (X9.setCell ⟨O,13,none⟩ (.int .i64 dr))=X10 at Y10 Sz ⊢
 clear hOl e13 f13 Y9
 have Oc13:Hid (P=w.heap.size∧R=P+1∧O=P+2∧O+1≤b1∧b1≤t1∧t1≤b2∧b2≤t2∧t2≤b3∧b3≤t3∧t3≤b4∧b4≤t4∧t4≤b5∧b5≤t5∧t5≤b6∧b6≤t6∧t6≤b7∧b7≤t7∧t7≤X10.heap.size):=by rw [Sz.out];exact Oc12.out
 clear Sz Oc12 c13
 go_wp2_with (first|(refine wpList_load_row rfl 50 (.tmp 3) rfl O rfl _ _ _ _ (show Boxed _ _ _ _ from Y10.out.1.1) Tryz.underlying50 rfl (by kernel_rfl) ?_)|(refine wpList_store_row rfl 50 (.tmp 2) (.tmp 42) rfl R _ rfl rfl _ _ (show Boxed _ _ _ _ from Y10.out.1.2.2.1) (by kernel_rfl) rfl (by simp [Value.oneCell']) ?_))
 have hz:(X10.setRow R (gc kd ex le (.slice y1 n1 d1) (.slice y2 n2 d2) (.slice y3 n3 d3) (.slice y4 n4 d4) mo (.slice y5 n5 d5) (.slice y6 n6 d6) nw (.slice y7 n7 d7) nx dr)).heap.size=X10.heap.size:=size_setRow _ _ _
 refine bodyPost_ret (results_cell_row Tryz.results7 _ _ R _ _ _ _ rfl (setRow_heap _ R _ _ _ _ (show Boxed _ _ _ _ from Y10.out.1.2.2.1)) Tryz.underlying50 rfl (by kernel_rfl)) rfl ⟨⟨_,rfl,?_⟩,below_setRow Y10.out.2 (by have:=Oc13.out;omega) _⟩
 have oo:=Oc13.out
 rw [hz]
 refine ⟨(⟨y1,d1,y2,d2,y3,d3,y4,d4,y5,d5,y6,d6,y7,d7⟩:Ga),(⟨b1,t1,b2,t2,b3,t3,b4,t4,b5,t5,b6,t6,b7,t7⟩:Gf),(HV.out (⟨y1,d1,y2,d2,y3,d3,y4,d4,y5,d5,y6,d6,y7,d7⟩:Ga)).symm,?_,?_,?_,by rw [hz];exact nlr⟩
 ·exact ⟨V1.out _ _ _ _ _ (RtsW.keep (show RtsW b1 t1 _ _ _ from Y10.out.1.2.2.2.1.1) (by rw [hz];exact Nat.le_refl _) (fun k k1 k2=>setRow_other _ _ _ _ (by have k3:b1≤k:=k1;omega))),V2.out _ _ _ _ _ (RusW.keep (show RusW b2 t2 _ _ _ from Y10.out.1.2.2.2.2.1.1) (by rw [hz];exact Nat.le_refl _) (fun k k1 k2=>setRow_other _ _ _ _ (by have k3:b2≤k:=k1;omega))),V3.out _ _ _ _ _ (NdsW.keep (show NdsW b3 t3 _ _ _ from Y10.out.1.2.2.2.2.2.1.1) (by rw [hz];exact Nat.le_refl _) (fun k k1 k2=>setRow_other _ _ _ _ (by have k3:b3≤k:=k1;omega))),V4.out _ _ _ _ _ (IntsW.keep (show IntsW b4 t4 _ _ _ from Y10.out.1.2.2.2.2.2.2.1.1) (by rw [hz];exact Nat.le_refl _) (fun k k1 k2=>setRow_other _ _ _ _ (by have k3:b4≤k:=k1;omega))),V5.out _ _ _ _ _ (RwIn.keep (show RwIn b5 t5 _ _ _ from Y10.out.1.2.2.2.2.2.2.2.1.1) (by rw [hz];exact Nat.le_refl _) (fun k k1 k2=>setRow_other _ _ _ _ (by have k3:b5≤k:=k1;omega))),V6.out _ _ _ _ _ (SrsW.keep (show SrsW b6 t6 _ _ _ from Y10.out.1.2.2.2.2.2.2.2.2.1.1) (by rw [hz];exact Nat.le_refl _) (fun k k1 k2=>setRow_other _ _ _ _ (by have k3:b6≤k:=k1;omega))),V7.out _ _ _ _ _ (FsIn.keep (show FsIn b7 t7 _ _ _ from Y10.out.1.2.2.2.2.2.2.2.2.2.1.1) (by rw [hz];exact Nat.le_refl _) (fun k k1 k2=>setRow_other _ _ _ _ (by have k3:b7≤k:=k1;omega)))⟩
 ·exact ⟨by show _≤b1;omega,by show t1≤_;omega,by show _≤b2;omega,by show t2≤_;omega,by show _≤b3;omega,by show t3≤_;omega,by show _≤b4;omega,by show t4≤_;omega,by show _≤b5;omega,by show t5≤_;omega,by show _≤b6;omega,by show t6≤_;omega,by show _≤b7;omega,by show t7≤_;omega⟩
 ·exact ⟨by show t1≤b2∨_;left;omega,by show t1≤b3∨_;left;omega,by show t1≤b4∨_;left;omega,by show t1≤b5∨_;left;omega,by show t1≤b6∨_;left;omega,by show t1≤b7∨_;left;omega,by show t2≤b3∨_;left;omega,by show t2≤b4∨_;left;omega,by show t2≤b5∨_;left;omega,by show t2≤b6∨_;left;omega,by show t2≤b7∨_;left;omega,by show t3≤b4∨_;left;omega,by show t3≤b5∨_;left;omega,by show t3≤b6∨_;left;omega,by show t3≤b7∨_;left;omega,by show t4≤b5∨_;left;omega,by show t4≤b6∨_;left;omega,by show t4≤b7∨_;left;omega,by show t5≤b6∨_;left;omega,by show t5≤b7∨_;left;omega,by show t6≤b7∨_;left;omega⟩
end Go.Proofs.YtgebghkcikmfaaaGreatDoor
