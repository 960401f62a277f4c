import Derived.Test.YtgebghkcikmfaaaGreatDoorQP45GtGoI
import Derived.Test.YtgebghkcikmfaaaGreatDoorQP47GtOkI
import Derived.Test.YtgebghkcikmfaaaGreatDoorQP48GtOwnI
set_option maxHeartbeats 12800000
set_option maxRecDepth 100000
namespace Go.Proofs.YtgebghkcikmfaaaGreatDoor
open Go.RowKit
theorem dueAsk (g:Gt) (x:Ga) (A k:Nat) (w:World) (hB:g.big≤1048576) (hk:k<g.fair.flows.length) (hlv:g.fair.flows.length=g.leaves.length) (hw:g.fair.waits k=true) (hb:Hid (Boxed w A (g.cells x) 50)) (hG:Hid (GtV w x g)) :
 Calls Tryz.prog 104 #[.int .i64 (k:Int),.pointer (some ⟨A,0,none⟩)] w fun e w'=>e = .returned (.bool (g.may k))∧Below w.heap.size w w':=by
 obtain ⟨s1,s2,s3,s4,s5,s6,s7⟩:=Gt.small hB
 have hwt:0<(fwAt g.fair.flows k).sizes.length:=of_decide_eq_true hw
 have A1:Hid (∀ W,Below w.heap.size w W→Calls Tryz.prog 106 #[g.val x,.int .i64 (k:Int)] W fun e w'=>e = .returned (.int .i64 (szAt (fwAt g.fair.flows k).sizes 0))∧Below W.heap.size W w'):=fun W q=>implFirstSize g x k W hk hwt (hG.out.fair.spot.below q)
 have A2:Hid (∀ W,Below w.heap.size w W→Calls Tryz.prog 105 #[.slice x.a3 g.tree.length x.c3,.int .i64 (g.leaves[k]?.getD 0),.int .i64 (szAt (fwAt g.fair.flows k).sizes 0)] W fun e w'=>e = .returned (.bool (g.may k))∧Below W.heap.size W w'):=fun W q=>by
  obtain ⟨a,c,e,h1,h2,h3⟩:=hG.out.tree.below q
  cases e
  exact implCan g.tree _ _ _ _ W s3 h2 h3 h1
 obtain ⟨lb,lo,la,hlb,l4⟩:=hG.out.leaves.spot' k (by rw [← hlv];exact hk)
 have F:Hid (∀ W,Below w.heap.size w W→W.cell? ⟨A,5,none⟩=some (.slice x.a3 g.tree.length x.c3)∧W.cell? ⟨A,6,none⟩=some (.slice (some ⟨lb,lo,none⟩) g.leaves.length x.c4)∧W.cell? ⟨lb,lo+k,none⟩=some (.int .i64 (g.leaves[k]?.getD 0))∧Boxed W A (g.cells x) 50):=fun W q=>by
  have bx:=hb.out.below hb.out.under q
  refine ⟨bx.cell 5 rfl,?_,(q.cell (p:=⟨lb,lo+k,none⟩) hlb).trans l4,bx⟩
  rw [← la]
  exact bx.cell 6 rfl
 have hcs:=Gt.cells_size g x
 unfold Gt.val at A1
 generalize g.may k=fl at A2 ⊢
 generalize szAt (fwAt g.fair.flows k).sizes 0=sz at A1 A2
 generalize g.leaves[k]?.getD 0=lf at A2 F l4
 generalize g.cells x=cs at A1 F hcs
 have Hcs:Hid (cs.size=14):=hcs
 generalize g.tree.length=nt at A2 F
 rw [hlv] at hk
 generalize g.leaves.length=nl at F hk
 have hk':(k:Int)<(nl:Int):=by omega
 clear hB hlv hw hb hG s1 s2 s3 s4 s5 s6 s7 hwt la hlb l4 hcs hk
 go_enter Tryz.func104,Tryz.ntmps104
 go_upto_region 1 with fail
 obtain ⟨x0,hx0⟩:∃ z,z=x:=⟨_,rfl⟩
 subst hx0
 refine region_lists (G:=Unit) (by kernel_rfl) (by kernel_rfl) (by kernel_rfl) (fun i=>99) (fun (_:Nat→Bool) (_:Unit) (z:World)=>Below w.heap.size w z) (fun i (_:Unit) z (_:Unit) z'=>True) (fun i y x u=>([fun _ _ u=>u = .pointer (some ⟨A,5,none⟩),fun _ _ u=>u = .slice x0.a3 nt x0.c3,fun _ _ u=>u = .pointer (some ⟨A,6,none⟩),fun _ _ u=>u = .slice (some ⟨lb,lo,none⟩) nl x0.c4,fun _ _ u=>u = .int .i64 k,fun _ _ u=>u = .pointer (some ⟨lb,lo+k,none⟩),fun _ _ u=>u = .int .i64 lf,fun _ _ u=>u = .agg cs,fun _ _ u=>u = .int .i64 k,fun _ _ u=>u = .int .i64 sz,fun _ _ u=>u = .bool fl,fun _ _ u=>u = .bool fl]:List (Unit→World→Value→Prop)).getD i (fun _ _ _=>True) y x u) ?hR () ?h0 ?step ?last
 case hR =>
  intro i j y y' x x' u hi hj hne hu h1 h2 hp hr
  have hi':i<12:=hi
  have hj':j<12:=hj
  have hcases:j=0∨j=1∨j=2∨j=3∨j=4∨j=5∨j=6∨j=7∨j=8∨j=9∨j=10∨j=11:=by omega
  rcases hcases with rfl|rfl|rfl|rfl|rfl|rfl|rfl|rfl|rfl|rfl|rfl|rfl
  ·exact hp
  ·exact hp
  ·exact hp
  ·exact hp
  ·exact hp
  ·exact hp
  ·exact hp
  ·exact hp
  ·exact hp
  ·exact hp
  ·exact hp
  ·exact hp
 case h0=>exact (Below.refl _ _).drew
 case step =>
  intro i o hi ho L a' y x hLi hwt hre hkp hI hp
  have s0:a'.tmps[0]?.getD undef = .int .i64 k:=by have h2:a'.tmps.getD 0 undef = .int .i64 k:=hkp.slot 0 (by kernel_rfl);simpa using h2
  have s1:a'.tmps[1]?.getD undef = .pointer (some ⟨A,0,none⟩):=by have h2:a'.tmps.getD 1 undef = .pointer (some ⟨A,0,none⟩):=hkp.slot 1 (by kernel_rfl);simpa using h2
  obtain ⟨f5,f6,fl6,fbx⟩:=F.out x hI
  have hi':i<12:=hi
  have hcases:i=0∨i=1∨i=2∨i=3∨i=4∨i=5∨i=6∨i=7∨i=8∨i=9∨i=10∨i=11:=by omega
  rcases hcases with rfl|rfl|rfl|rfl|rfl|rfl|rfl|rfl|rfl|rfl|rfl|rfl
  ·cases ho
   refine ⟨wno rfl,Oper.wp_mono (K:=fun a'' w''=>a''=a'.put (some 4) (.pointer (some ⟨A,5,none⟩))∧w''=x) ?_ ?_⟩
   ·rintro _ _ ⟨rfl,rfl⟩
    exact ⟨_,y,rfl,trivial,hI,fun u hu=>hu (fun h=>by cases h)⟩
   ·unfold Oper.wp
    simp [go_sem,s1]
  ·cases ho
   have q0:a'.tmps[4]?.getD undef = .pointer (some ⟨A,5,none⟩):=by have h2:a'.tmps.getD 4 undef = .pointer (some ⟨A,5,none⟩):=hp 0 (od (by kernel_rfl)) (.inr (by decide));simpa using h2
   refine ⟨wno rfl,Oper.wp_mono (K:=fun a'' w''=>a''=a'.put (some 5) (.slice x0.a3 nt x0.c3)∧w''=x) ?_ ?_⟩
   ·rintro _ _ ⟨rfl,rfl⟩
    exact ⟨_,y,rfl,trivial,hI,fun u hu=>hu (fun h=>by cases h)⟩
   ·unfold Oper.wp
    simp [go_sem,q0,f5]
  ·cases ho
   refine ⟨wno rfl,Oper.wp_mono (K:=fun a'' w''=>a''=a'.put (some 6) (.pointer (some ⟨A,6,none⟩))∧w''=x) ?_ ?_⟩
   ·rintro _ _ ⟨rfl,rfl⟩
    exact ⟨_,y,rfl,trivial,hI,fun u hu=>hu (fun h=>by cases h)⟩
   ·unfold Oper.wp
    simp [go_sem,s1]
  ·cases ho
   have q2:a'.tmps[6]?.getD undef = .pointer (some ⟨A,6,none⟩):=by have h2:a'.tmps.getD 6 undef = .pointer (some ⟨A,6,none⟩):=hp 2 (od (by kernel_rfl)) (.inr (by decide));simpa using h2
   refine ⟨wno rfl,Oper.wp_mono (K:=fun a'' w''=>a''=a'.put (some 7) (.slice (some ⟨lb,lo,none⟩) nl x0.c4)∧w''=x) ?_ ?_⟩
   ·rintro _ _ ⟨rfl,rfl⟩
    exact ⟨_,y,rfl,trivial,hI,fun u hu=>hu (fun h=>by cases h)⟩
   ·unfold Oper.wp
    simp [go_sem,q2,f6]
  ·cases ho
   refine ⟨wno rfl,Oper.wp_mono (K:=fun a'' w''=>a''=a'.put (some 8) (.int .i64 k)∧w''=x) ?_ ?_⟩
   ·rintro _ _ ⟨rfl,rfl⟩
    exact ⟨_,y,rfl,trivial,hI,fun u hu=>hu (fun h=>by cases h)⟩
   ·unfold Oper.wp
    simp [go_sem,s0]
  ·cases ho
   have q3:a'.tmps[7]?.getD undef = .slice (some ⟨lb,lo,none⟩) nl x0.c4:=by have h2:a'.tmps.getD 7 undef = .slice (some ⟨lb,lo,none⟩) nl x0.c4:=hp 3 (od (by kernel_rfl)) (.inr (by decide));simpa using h2
   have q4:a'.tmps[8]?.getD undef = .int .i64 k:=by have h2:a'.tmps.getD 8 undef = .int .i64 k:=hp 4 (od (by kernel_rfl)) (.inr (by decide));simpa using h2
   refine ⟨wno rfl,Oper.wp_mono (K:=fun a'' w''=>a''=a'.put (some 9) (.pointer (some ⟨lb,lo+k,none⟩))∧w''=x) ?_ ?_⟩
   ·rintro _ _ ⟨rfl,rfl⟩
    exact ⟨_,y,rfl,trivial,hI,fun u hu=>hu (fun h=>by cases h)⟩
   ·unfold Oper.wp
    simp [go_sem,q3,q4,hk']
  ·cases ho
   have q5:a'.tmps[9]?.getD undef = .pointer (some ⟨lb,lo+k,none⟩):=by have h2:a'.tmps.getD 9 undef = .pointer (some ⟨lb,lo+k,none⟩):=hp 5 (od (by kernel_rfl)) (.inr (by decide));simpa using h2
   refine ⟨wno rfl,Oper.wp_mono (K:=fun a'' w''=>a''=a'.put (some 10) (.int .i64 lf)∧w''=x) ?_ ?_⟩
   ·rintro _ _ ⟨rfl,rfl⟩
    exact ⟨_,y,rfl,trivial,hI,fun u hu=>hu (fun h=>by cases h)⟩
   ·unfold Oper.wp
    simp [go_sem,q5,fl6]
  ·cases ho
   exact ⟨wno rfl,wp_load_row 50 (.tmp 1) rfl A (by simpa [Act.eval] using s1) _ _ _ _ fbx Tryz.underlying50 rfl (by rw [Hcs.out];kernel_rfl) ⟨_,y,rfl,trivial,hI,fun u hu=>hu (fun h=>by cases h)⟩⟩
  ·cases ho
   refine ⟨wno rfl,Oper.wp_mono (K:=fun a'' w''=>a''=a'.put (some 12) (.int .i64 k)∧w''=x) ?_ ?_⟩
   ·rintro _ _ ⟨rfl,rfl⟩
    exact ⟨_,y,rfl,trivial,hI,fun u hu=>hu (fun h=>by cases h)⟩
   ·unfold Oper.wp
    simp [go_sem,s0]
  ·cases ho
   have q7:a'.tmps[11]?.getD undef = .agg cs:=by have h2:a'.tmps.getD 11 undef = .agg cs:=hp 7 (od (by kernel_rfl)) (.inr (by decide));simpa using h2
   have q8:a'.tmps[12]?.getD undef = .int .i64 k:=by have h2:a'.tmps.getD 12 undef = .int .i64 k:=hp 8 (od (by kernel_rfl)) (.inr (by decide));simpa using h2
   refine ⟨wno rfl,op_callR (f:=106) (args:=#[.agg cs,.int .i64 k]) (by simp [execOp,resolve,Deferred.ofValue,invoke,Act.eval,q7,q8]) (A1.out x hI) ?_⟩
   rintro e x1 ⟨rfl,q⟩
   exact ⟨_,rfl,_,(),rfl,trivial,hI.trans (q.mono hI.size),fun u hu=>hu (fun h=>by cases h)⟩
  ·cases ho
   have q1:a'.tmps[5]?.getD undef = .slice x0.a3 nt x0.c3:=by have h2:a'.tmps.getD 5 undef = .slice x0.a3 nt x0.c3:=hp 1 (od (by kernel_rfl)) (.inr (by decide));simpa using h2
   have q6:a'.tmps[10]?.getD undef = .int .i64 lf:=by have h2:a'.tmps.getD 10 undef = .int .i64 lf:=hp 6 (od (by kernel_rfl)) (.inr (by decide));simpa using h2
   have q9:a'.tmps[13]?.getD undef = .int .i64 sz:=by have h2:a'.tmps.getD 13 undef = .int .i64 sz:=hp 9 (od (by kernel_rfl)) (.inr (by decide));simpa using h2
   refine ⟨wno rfl,op_callR (f:=105) (args:=#[.slice x0.a3 nt x0.c3,.int .i64 lf,.int .i64 sz]) (by simp [execOp,resolve,Deferred.ofValue,invoke,Act.eval,q1,q6,q9]) (A2.out x hI) ?_⟩
   rintro e x1 ⟨rfl,q⟩
   exact ⟨_,rfl,_,(),rfl,trivial,hI.trans (q.mono hI.size),fun u hu=>hu (fun h=>by cases h)⟩
  ·cases ho
   have e1:a'.tmps.getD 14 undef = .bool fl:=hp 10 (od (by kernel_rfl)) (.inr (by decide))
   refine ⟨wno rfl,op_assignZ 14 rfl ?_⟩
   rw [e1]
   exact ⟨_,(),rfl,trivial,hI,fun u hu=>hu (fun h=>by cases h)⟩
 case last =>
 intro L a' y x hall hkp hI hp
 have e3:a'.tmps.getD 3 undef = .bool fl:=hp 11 (by decide) (by decide)
 have Zf:Hid (Below w.heap.size w x):=hI
 have ha:=hkp.pick [true,true,true,false,false,false,false,false,false,false,false,false,false,false,false] (by kernel_rfl)
 simp only [pickS] at ha
 clear hp hkp hI hall F A1 A2
 have E3:Hid (a'.tmps.getD 3 undef = .bool fl):=e3
 clear e3
 generalize a'.tmps.getD 3 undef=y3 at ha E3
 generalize a'.tmps.getD 4 undef=y4 at ha
 generalize a'.tmps.getD 5 undef=y5 at ha
 generalize a'.tmps.getD 6 undef=y6 at ha
 generalize a'.tmps.getD 7 undef=y7 at ha
 generalize a'.tmps.getD 8 undef=y8 at ha
 generalize a'.tmps.getD 9 undef=y9 at ha
 generalize a'.tmps.getD 10 undef=y10 at ha
 generalize a'.tmps.getD 11 undef=y11 at ha
 generalize a'.tmps.getD 12 undef=y12 at ha
 generalize a'.tmps.getD 13 undef=y13 at ha
 generalize a'.tmps.getD 14 undef=y14 at ha
 have e3:y3 = .bool fl:=E3.out
 subst e3
 clear E3
 rw [ha]
 clear ha
 go_wp2_with fail
 go_ret
 exact ⟨rfl,Zf.out⟩
theorem implDueLeaf (g:Gt) (x:Ga) (w:World) (hB:g.big≤1048576) (hok:g.ok=true) (hG:Hid (GtV w x g)) :
 Calls Tryz.prog 37 #[g.val x] w fun e w'=>e=(if 0≤g.best then .returned (.int .i64 g.best) else .panicked [{ v:=gaveUp (-1),recovered:=false }])∧Below w.heap.size w w':=by
 obtain ⟨s1,s2,s3,s4,s5,s6,s7⟩:=Gt.small hB
 obtain ⟨-,-,-,-,-,-,-,-,k9,k10,-⟩:=Gt.head_iff.1 (Gt.ok_iff.1 hok).1
 obtain ⟨W,hW⟩:∃ W,W=w.alloc (.cells (g.cells x) 50):=⟨_,rfl⟩
 obtain ⟨A,hA⟩:∃ A,A=w.heap.size:=⟨_,rfl⟩
 have X0:Hid (Boxed W A (g.cells x) 50∧Below w.heap.size w W∧GtV W x g):=by
  have q:Below w.heap.size w W:=by rw [hW];exact (Below.refl _ _).alloc nlr _
  exact ⟨by rw [hW,hA];exact Boxed.new _ _ _,q,hG.out.below q⟩
 have M:Hid (MayF W 104 #[] #[.pointer (some ⟨A,0,none⟩)] (fun k=>k<g.fair.flows.length∧g.fair.waits k=true) g.may) :=
  ⟨enters_of Tryz.func104 (by kernel_rfl) rfl,fun V k hk q=>dueAsk g x A k V hB hk.1 k10 hk.2 (X0.out.1.below X0.out.1.under q) (X0.out.2.2.below q)⟩
 have C:Hid (Calls Tryz.prog 103 #[.agg #[.int .i64 g.fair.now,.slice x.a7 g.fair.flows.length x.c7],.func (.func 104) #[] #[.pointer (some ⟨A,0,none⟩)]] W fun e w'=>e = .returned (.int .i64 (g.fair.bestP g.may g.fair.flows.length))∧Below W.heap.size W w'):=implChosenOf g.fair x.a7 x.c7 104 #[] #[.pointer (some ⟨A,0,none⟩)] g.may W s7 k9 X0.out.2.2.fair.spot M
 have Zb:Hid (g.best=g.fair.bestP g.may g.fair.flows.length):=rfl
 have Hb:Hid (g.best = -1∨0≤g.best):=by
  rcases g.best_is with e|⟨bb,e,-⟩
  ·exact .inl e
  ·right;rw [e];omega
 rw [← Zb.out] at C
 generalize g.best=bst at C Hb ⊢
 have c10:W.cell? ⟨A,10,none⟩=some (.int .i64 g.fair.now):=X0.out.1.cell 10 rfl
 have c11:W.cell? ⟨A,11,none⟩=some (.slice x.a7 g.fair.flows.length x.c7):=X0.out.1.cell 11 rfl
 have B0:Hid (Below w.heap.size w W):=X0.out.2.1
 unfold Gt.val
 generalize g.cells x=cs at hW X0 ⊢
 generalize g.fair.now=nw at c10 C
 generalize g.fair.flows.length=nf at c11 C
 have hmf:∀ (fn:Fn) (first cap:Array Value) (w:World),(Instr.makeFunc fn first cap).run Tryz.prog w = .ok (.func fn first cap) w:=fun _ _ _ _=>rfl
 have HW:Hid (W=_):=hW
 have HA:Hid (A=w.heap.size):=hA
 clear hW hA X0 M hG hB hok s1 s2 s3 s4 s5 s6 s7 k9 k10 Zb
 by_cases h0:0≤bst
 ·rw [if_pos h0]
  have hne:¬ bst = -1:=by omega
  go_enter Tryz.func37,Tryz.ntmps37
  go_upto_region 1 with fail
  rw [← HW.out,← HA.out]
  clear HW
  go_wp2_with fail
  refine C.out.mono ?_
  rintro e w1 ⟨rfl,q⟩
  have B1:Hid (Below w.heap.size w w1):=B0.out.trans (q.mono B0.out.size)
  clear q c10 c11 C B0
  have hbn:(bst != -1)=true:=by simp [hne]
  have A1:Hid (∀ w,Calls Tryz.prog 107 #[.bool true,.int .i64 (-1)] w fun e w'=>e = .returned (.tuple #[])∧w'=w):=fun w=>(implMust true (-1) w).mono fun e w' h=>⟨by rw [h.1,if_pos rfl],h.2⟩
  go_wp2_with fail
  refine (A1.out _).mono ?_
  rintro e w2 ⟨rfl,hw2⟩
  have hw3:=hw2.symm
  subst hw3
  go_wp2
  go_ret
  exact ⟨rfl,B1.out⟩
 ·rw [if_neg h0]
  have e1:bst = -1:=by rcases Hb.out with e|e<;>omega
  subst e1
  go_enter Tryz.func37,Tryz.ntmps37
  go_upto_region 1 with fail
  rw [← HW.out,← HA.out]
  clear HW
  go_wp2_with fail
  refine C.out.mono ?_
  rintro e w1 ⟨rfl,q⟩
  have B1:Hid (Below w.heap.size w w1):=B0.out.trans (q.mono B0.out.size)
  clear q c10 c11 C B0
  have A1:Hid (∀ w,Calls Tryz.prog 107 #[.bool false,.int .i64 (-1)] w fun e w'=>e = .panicked [{ v:=gaveUp (-1),recovered:=false }]∧w'=w):=fun w=>(implMust false (-1) w).mono fun e w' h=>⟨by rw [h.1,if_neg (by decide)],h.2⟩
  go_wp2_with fail
  refine (A1.out _).mono ?_
  rintro e w2 ⟨rfl,hw2⟩
  have hw3:=hw2.symm
  subst hw3
  go_wp2
  first|exact ⟨rfl,B1.out⟩|exact ⟨rfl,rfl,B1.out⟩|exact ⟨⟨rfl,B1.out⟩,rfl⟩
theorem gtIn_zero (b:Nat) (w:World) (hb:b≤w.heap.size):GtIn b w.heap.size w (.agg #[.int .i64 0,.int .i64 0,.int .i64 0,.slice none 0 0,.slice none 0 0,.slice none 0 0,.slice none 0 0,.int .i64 0,.slice none 0 0,.slice none 0 0,.int .i64 0,.slice none 0 0,.int .i64 0,.int .i64 0]) Gt.zero:=by
 refine ⟨⟨none,0,none,0,none,0,none,0,none,0,none,0,none,0⟩,⟨w.heap.size,w.heap.size,w.heap.size,w.heap.size,w.heap.size,w.heap.size,w.heap.size,w.heap.size,w.heap.size,w.heap.size,w.heap.size,w.heap.size,w.heap.size,w.heap.size⟩,rfl,⟨RtsW.of_row (World.ownsRow_nil _ _ _ _),RusW.of_row (World.ownsRow_nil _ _ _ _),NdsW.of_row (World.ownsRow_nil _ _ _ _),IntsW.of_row (World.ownsRow_nil _ _ _ _),⟨none,0,rfl,[],(IzG.nil _ _).done⟩,SrsW.of_row (World.ownsRow_nil _ _ _ _),⟨none,0,rfl,[],(FwG.nil _ _).done⟩⟩,?_,?_,nlr⟩
 ·constructor<;>(try simp only)<;>omega
 ·constructor<;>exact .inl nlr
theorem Gt.outNo {g:Gt} (h:g.outB=false):g.out=g∧g.outI=⟨0,0,0⟩∧g.outL = -1:=by
 unfold Gt.out Gt.outI Gt.outL
 rw [h]
 exact ⟨rfl,rfl,rfl⟩
theorem Gt.outYes {g:Gt} (h:g.outB=true):g.out=g.go g.best.toNat∧g.outI=itAt (izAt g.rows.lists g.best.toNat) 0∧g.outL=g.best:=by
 unfold Gt.out Gt.outI Gt.outL
 rw [h]
 exact ⟨rfl,rfl,rfl⟩
structure WentW (lo B:Nat) (g:Gt) (i:It) (w w':World):Prop where
 ex:∃ x f,Boxed w' B (g.cells x) 50∧GtW w' x f g∧f.In lo w'.heap.size∧f.Apart∧∀ j,B<j→j<w.heap.size→f.Off j
 it:Boxed w' (B+1) (ic i.id i.size i.tm) 52
 bel:Below lo w w'
 hi:∀ j,B+1<j→j<w.heap.size→w'.heap[j]? = w.heap[j]?
theorem implOutFn (lo:Nat) (g:Gt) (xg:Ga) (f:Gf) (B:Nat) (w:World) (hB:g.big≤1048576) (hok:g.ok=true) (hD:Hid (∀ W,Below lo w W→Dv W)) (hdl:2<lo) (hb:Hid (Boxed w B (g.cells xg) 50)) (hi:Hid (Boxed w (B+1) zi 52)) (hG:Hid (GtW w xg f g∧f.In lo B∧f.Apart∧lo≤B)) (k:Nat) (hk:B+1<k) (hc:w.cell? ⟨k,0,none⟩=some (.int .i64 0)) (hf:w.frozen? ⟨k,0,none⟩=false) :
 Calls Tryz.prog 36 #[.pointer (some ⟨B,0,none⟩),.pointer (some ⟨B+1,0,none⟩)] w fun e w'=>∃ a,(e = .returned (.int .i64 a)∨e = .panicked [{ v:=gaveUp a,recovered:=false }])∧(a=g.outL∧WentW lo B g.out g.outI w w')∧w'.cell? ⟨k,0,none⟩=some (.int .i64 0)∧w'.frozen? ⟨k,0,none⟩=false:=by
 have hkw:k<w.heap.size:=by
  rcases Nat.lt_or_ge k w.heap.size with h|h
  ·exact h
  ·exfalso
   have:w.cell? ⟨k,0,none⟩=none:=by simp [World.cell?,Array.getElem?_eq_none h]
   rw [this] at hc
   cases hc
 have Kp:Hid (∀ w' g' i,WentW lo B g' i w w'→w'.cell? ⟨k,0,none⟩=some (.int .i64 0)∧w'.frozen? ⟨k,0,none⟩=false):=fun w' g' i h=>by
  have e:=h.hi k hk hkw
  have e1:w'.cell? ⟨k,0,none⟩=w.cell? ⟨k,0,none⟩:=World.cell?_of_block e
  have e2:w'.frozen? ⟨k,0,none⟩=w.frozen? ⟨k,0,none⟩:=World.frozen?_of_block e
  exact ⟨e1.trans hc,e2.trans hf⟩
 have hlw:lo≤w.heap.size∧B<w.heap.size∧B+1<w.heap.size:=⟨by have:=hG.out.2.2.2;have:=hb.out.under;omega,hb.out.under,hi.out.under⟩
 have St:Hid (∀ w1,Below w.heap.size w w1→WentW lo B g ⟨0,0,0⟩ w w1):=fun w1 q=>⟨⟨xg,f,hb.out.below hlw.2.1 q,hG.out.1.below q,hG.out.2.1.wide nlr (by have:=q.size;omega),hG.out.2.2.1,fun j h3 _=>Gf.Off.of_in hG.out.2.1 (Nat.le_of_lt h3)⟩,hi.out.below hlw.2.2 q,q.mono hlw.1,fun j _ h4=>q.block j h4⟩
 have D:Hid (Calls Tryz.prog 37 #[.agg (g.cells xg)] w fun e w'=>e=(if 0≤g.best then .returned (.int .i64 g.best) else .panicked [{ v:=gaveUp (-1),recovered:=false }])∧Below w.heap.size w w'):=implDueLeaf g xg w hB hok hG.out.1.at
 rcases g.best_is with e0|⟨k0,e0,b1,b2,b3⟩
 ·have no:g.outB=false:=by unfold Gt.outB;rw [e0];rfl
  obtain ⟨o1,o2,o3⟩:=Gt.outNo no
  rw [o1,o2,o3]
  rw [e0,if_neg (by decide)] at D
  have D':=D
  have Hb:Hid (Boxed w B (g.cells xg) 50):=hb.out
  clear D hb hD hc hf hG hi hok hB
  go_enter Tryz.func36,Tryz.ntmps36
  go_wp2_with (refine wpList_load_row rfl 50 (.tmp 0) rfl B rfl _ _ _ _ Hb.out Tryz.underlying50 rfl (by rw [Gt.cells_size];kernel_rfl) ?_)
  refine D'.out.mono ?_
  rintro e w1 ⟨rfl,q⟩
  have s1:=St.out w1 q
  have k1:=Kp.out w1 _ _ s1
  first|exact ⟨rfl,-1,.inr rfl,⟨rfl,s1⟩,k1⟩|(trace_state;done)
 ·rw [e0,if_pos (by omega)] at D
  have hkl:k0<g.leaves.length:=by
   have:=(Gt.head_iff.1 (Gt.ok_iff.1 hok).1).2.2.2.2.2.2.2.2.2.1
   omega
  have C:∀ w1,Below w.heap.size w w1→∀ Q:Ending→World→Prop,(g.fair.endOf k0≤1125899906842624→∀ w',GoneW lo B (g.go k0) w1 w'→Q (.returned (.agg #[.int .i64 (itAt (izAt g.rows.lists k0) 0).id,.int .i64 (itAt (izAt g.rows.lists k0) 0).size,.int .i64 (itAt (izAt g.rows.lists k0) 0).tm])) w')→(¬ g.fair.endOf k0≤1125899906842624→∀ w',GoneW lo B g w1 w'→Q (.panicked [{ v:=gaveUp (-1),recovered:=false }]) w')→Calls Tryz.prog 38 #[.pointer (some ⟨B,0,none⟩),.int .i64 (k0:Int)] w1 Q:=fun w1 q Q h1 h2 =>
   implGoOutQ lo g xg f B k0 w1 Q hB hok hkl b2 b3 (hD.out w1 (q.mono hlw.1)) hdl (hb.out.below hlw.2.1 q) ⟨hG.out.1.below q,hG.out.2⟩ h1 h2
  have Y:Hid (g.fair.endOf k0≤1125899906842624→g.out=g.go k0∧g.outI=itAt (izAt g.rows.lists k0) 0∧g.outL=(k0:Int)):=fun h=>by
   have z:=Gt.outYes (g:=g) (by unfold Gt.outB;rw [e0,Int.toNat_natCast,decide_eq_true h,decide_eq_true (by omega)];rfl)
   rw [e0,Int.toNat_natCast] at z
   exact z
  have Nn:Hid (¬ g.fair.endOf k0≤1125899906842624→g.out=g∧g.outI=⟨0,0,0⟩∧g.outL = -1):=fun h=>Gt.outNo (by unfold Gt.outB;rw [e0,Int.toNat_natCast,decide_eq_false h,Bool.and_false])
  generalize itAt (izAt g.rows.lists k0) 0=it at C Y
  have Go:Hid (∀ w1,Below w.heap.size w w1→∀ g' w',GoneW lo B g' w1 w'→WentW lo B g' ⟨0,0,0⟩ w w'∧WentW lo B g' it w (w'.setRow (B+1) (ic it.id it.size it.tm))∧Boxed w' (B+1) zi 52):=fun w1 q g' w' h=>by
   obtain ⟨⟨x,f',u1,u2,u3,u4,u5⟩,u6,u7⟩:=h
   have hsz:=q.size
   have hi1:Boxed w' (B+1) zi 52:=(u7 (B+1) (by omega) (by omega)).trans (hi.out.below hlw.2.2 q)
   have bl:Below lo w w':=(q.mono hlw.1).trans u6
   have hh:∀ j,B<j→j<w.heap.size→w'.heap[j]? = w.heap[j]? := fun j h3 h4=>(u7 j h3 (by omega)).trans (q.block j h4)
   have hS:=size_setRow w' (B+1) (ic it.id it.size it.tm)
   refine ⟨⟨⟨x,f',u1,u2,u3,u4,fun j h3 h4=>u5 j h3 (by omega)⟩,hi1,bl,fun j h3 h4=>hh j (by omega) h4⟩,⟨⟨x,f',(setRow_other _ _ _ _ (by omega)).trans u1,u2.off2 (u5 (B+1) (by omega) (by omega)) u3 nlr (Nat.le_of_eq hS.symm) (fun j _ h3 _=>setRow_other _ _ _ _ h3),u3.wide nlr (Nat.le_of_eq hS.symm),u4,fun j h3 h4=>u5 j h3 (by omega)⟩,setRow_heap _ _ _ _ _ _ hi1,below_setRow bl (by have:=hG.out.2.2.2;omega) _,fun j h3 h4=>(setRow_other _ _ _ _ (by omega)).trans (hh j (by omega) h4)⟩,hi1⟩
  have Cc:Hid _:=C
  have D':=D
  have Hb:Hid (Boxed w B (g.cells xg) 50):=hb.out
  clear D C hb hD hc hf hG hi hok hB b1 b2 b3 e0 hkl St
  go_enter Tryz.func36,Tryz.ntmps36
  go_wp2_with (refine wpList_load_row rfl 50 (.tmp 0) rfl B rfl _ _ _ _ Hb.out Tryz.underlying50 rfl (by rw [Gt.cells_size];kernel_rfl) ?_)
  refine D'.out.mono ?_
  rintro e w1 ⟨rfl,q⟩
  have Q1:Hid (Below w.heap.size w w1):=q
  clear q D' Hb
  go_wp2_with fail
  refine Cc.out w1 Q1.out _ (fun h w' hw=>?_) (fun h w' hw=>?_)
  ·obtain ⟨-,s2,s3⟩:=Go.out w1 Q1.out _ _ hw
   have S3:Hid (Boxed w' (B+1) zi 52):=s3
   have k1:Hid _:=Kp.out _ _ _ s2
   obtain ⟨y1,y2,y3⟩:=Y.out h
   have S2:Hid (WentW lo B g.out g.outI w (w'.setRow (B+1) (ic it.id it.size it.tm))):=by rw [y1,y2];exact s2
   have Y3:Hid (g.outL=(k0:Int)):=y3
   clear s2 s3 y1 y2 y3 hw h Y Nn Go Cc
   go_wp2_with (refine wpList_store_row rfl 52 (.tmp 1) (.tmp 7) rfl (B+1) (ic it.id it.size it.tm) rfl rfl _ _ S3.out (by kernel_rfl) rfl (by simp [Value.oneCell']) ?_)
   go_ret
   exact ⟨_,.inl rfl,⟨Y3.out.symm,S2.out⟩,k1.out⟩
  ·obtain ⟨s2,-,-⟩:=Go.out w1 Q1.out _ _ hw
   have k1:=Kp.out _ _ _ s2
   obtain ⟨y1,y2,y3⟩:=Nn.out h
   have s3:WentW lo B g.out g.outI w w':=by rw [y1,y2];exact s2
   first|exact ⟨rfl,-1,.inr rfl,⟨y3.symm,s3⟩,k1⟩|(trace_state;done)
theorem results_rrt {P:Program} {fn:Func} {p q x:Tmp} {ty tz:TypeId} (h:fn.results=#[.cell p ty,.cell q tz,.tmp x]) (tmps:Array Value) (w:World) (g k:Nat) (t u:TypeId) (cs ds:Array Value) (fr gr:Nat×Nat) (d d':TypeDesc) (v:Value)
 (hp:tmps.getD p undef = .pointer (some ⟨g,0,none⟩)) (hq:tmps.getD q undef = .pointer (some ⟨k,0,none⟩)) (hv:tmps.getD x undef=v) (hg:w.heap[g]? = some (.cells cs t fr)) (hk:w.heap[k]? = some (.cells ds u gr))
 (hu:P.underlying ty=some d) (hd:(match d with | .struct _ | .array _ _=>true|_=>false)=true) (hi:(P.info? ty).map (·.size)=some cs.size)
 (hu':P.underlying tz=some d') (hd':(match d' with | .struct _ | .array _ _=>true|_=>false)=true) (hi':(P.info? tz).map (·.size)=some ds.size) :
 (results fn tmps).run P w = .ok (.tuple #[.agg cs,.agg ds,v]) w:=by
 have hp':tmps[p]?.getD undef = .pointer (some ⟨g,0,none⟩):=by simpa using hp
 have hq':tmps[q]?.getD undef = .pointer (some ⟨k,0,none⟩):=by simpa using hq
 have hv':tmps[x]?.getD undef=v:=by simpa using hv
 simp [results,h,hp',hq',hv',asAddr,run_loadVar_row w g t ty cs fr d hg hu hd hi,run_loadVar_row w k u tz ds gr d' hk hu' hd' hi']
theorem implOutG (g:Gt) (v:Value) (w:World) (hB:g.big≤1048576) (hD:Hid (Dv w)) (h:Hid (GtAt w v g)) :
 Calls Tryz.prog 8 #[v] w fun e w'=>(∃ v',e = .returned (.tuple #[v',.agg #[.int .i64 g.goI.id,.int .i64 g.goI.size,.int .i64 g.goI.tm],.int .i64 g.goL])∧GtIn w.heap.size w'.heap.size w' v' g.goG)∧Below w.heap.size w w':=by
 obtain ⟨x,rfl,hG⟩:=h.out
 have A1:=fun w (h:GtV w x g)=>implGateOk g x w hB h
 have A2:=fun w (h:GtV w x g)=>implOwnGate g x w hB h
 have A3:Hid (g.ok=true→∀ lo xg f B k W,(∀ W2,Below lo W W2→Dv W2)→2<lo→Boxed W B (g.cells xg) 50→Boxed W (B+1) zi 52→GtW W xg f g∧f.In lo B∧f.Apart∧lo≤B→B+1<k→W.cell? ⟨k,0,none⟩=some (.int .i64 0)→W.frozen? ⟨k,0,none⟩=false→Calls Tryz.prog 36 #[.pointer (some ⟨B,0,none⟩),.pointer (some ⟨B+1,0,none⟩)] W fun e w'=>∃ a,(e = .returned (.int .i64 a)∨e = .panicked [{ v:=gaveUp a,recovered:=false }])∧(a=g.goL∧WentW lo B g.goG g.goI W w')∧w'.cell? ⟨k,0,none⟩=some (.int .i64 0)∧w'.frozen? ⟨k,0,none⟩=false):=fun e lo xg f B k W h1 h2 h3 h4 h5 h6 h7 h8=>by
  have q:=implOutFn lo g xg f B W hB e h1 h2 h3 h4 h5 k h6 h7 h8
  have e1:g.goL=g.outL:=by unfold Gt.goL;rw [if_pos e]
  have e2:g.goG=g.out:=by unfold Gt.goG;rw [if_pos e]
  have e3:g.goI=g.outI:=by unfold Gt.goI;rw [if_pos e]
  rw [e1,e2,e3]
  exact q
 have Hno:Hid (g.ok=false→g.goL = -2∧g.goG=Gt.zero∧g.goI=⟨0,0,0⟩):=fun e=>⟨by unfold Gt.goL;rw [e];rfl,by unfold Gt.goG;rw [e];rfl,by unfold Gt.goI;rw [e];rfl⟩
 have K:Hid (∀ W,Below w.heap.size w W→GtV W x g∧Dv W):=fun W q=>⟨hG.below q,hD.out.on q⟩
 have Hdv:Hid (2<w.heap.size):=hD.out.under
 generalize g.goL=fl at A3 Hno ⊢
 generalize g.goG=ga at A3 Hno ⊢
 generalize g.goI=gi at A3 Hno ⊢
 obtain ⟨i0,i1,i2⟩:=gi
 simp only at A3 ⊢
 generalize g.ok=ok at A1 A3 Hno
 have Hcs:Hid (∀ x':Ga,(g.cells x').size=14∧(g.cells x').all (·.oneCell')=true):=fun x'=>⟨Gt.cells_size g x',Gt.cells_one g x'⟩
 have Hca:Hid (∀ x':Ga,(ga.cells x').size=14∧(ga.cells x').all (·.oneCell')=true):=fun x'=>⟨Gt.cells_size ga x',Gt.cells_one ga x'⟩
 unfold Gt.val at A1 A2 ⊢
 have hcs:=Hcs.out x
 generalize g.cells x=cs at A1 A2 hcs ⊢
 have H1:Hid (cs.size=14∧cs.all (·.oneCell')=true):=hcs
 have A1':Hid _:=A1
 have A2':Hid _:=A2
 clear A1 A2 h hG hB hcs hD
 obtain ⟨A,hA⟩:∃ A,A=w.heap.size:=⟨_,rfl⟩
 obtain ⟨W0,hW⟩:∃ W,W=((w.alloc (.cells cs 50)).alloc (.cells gz 50)).alloc (.cells zi 52):=⟨_,rfl⟩
 have X0:Hid (Boxed W0 A cs 50∧Boxed W0 (A+1) gz 50∧Boxed W0 (A+1+1) zi 52∧Below w.heap.size w W0):=by
  rw [hW,hA]
  refine ⟨((Boxed.new w _ _).more _).more _,?_,?_,(((Below.refl _ _).alloc nlr _).alloc (by simp) _).alloc (by simp;omega) _⟩
  ·have:=(Boxed.new (w.alloc (.cells cs 50)) gz 50).more (.cells zi 52)
   simpa using this
  ·have:=Boxed.new ((w.alloc (.cells cs 50)).alloc (.cells gz 50)) zi 52
   simpa using this
 have HW:Hid (W0=_):=hW
 have HA:Hid (A=w.heap.size):=hA
 clear hW hA
 go_enter Tryz.func8,Tryz.ntmps8
 go_upto_region 1 with fail
 rw [← HW.out,← HA.out]
 clear HW
 go_wp2_with (refine wpList_load_row rfl 50 (.tmp 1) rfl A rfl _ _ _ _ X0.out.1 Tryz.underlying50 rfl (by rw [H1.out.1];kernel_rfl) ?_)
 refine (A1'.out _ (K.out _ X0.out.2.2.2).1).mono ?_
 rintro e w1 ⟨rfl,q⟩
 have X1:Hid (Boxed w1 A cs 50∧Boxed w1 (A+1) gz 50∧Boxed w1 (A+1+1) zi 52∧Below w.heap.size w w1):=⟨X0.out.1.below X0.out.1.under q,X0.out.2.1.below X0.out.2.1.under q,X0.out.2.2.1.below X0.out.2.2.1.under q,X0.out.2.2.2.trans (q.mono X0.out.2.2.2.size)⟩
 clear q X0 A1'
 cases ok
 ·obtain ⟨e1,e2,e3⟩:=Hno.out rfl
  subst e1
  cases e3
  have E2:Hid (ga=Gt.zero):=e2
  clear e2
  have P1:Hid (Boxed (w1.setRow (A+1) gz) (A+1+1) zi 52∧Boxed ((w1.setRow (A+1) gz).setRow (A+1+1) zi) (A+1) gz 50∧Boxed ((w1.setRow (A+1) gz).setRow (A+1+1) zi) (A+1+1) zi 52∧Below w.heap.size w ((w1.setRow (A+1) gz).setRow (A+1+1) zi)):=by
   have b1:Boxed (w1.setRow (A+1) gz) (A+1) gz 50:=setRow_heap _ _ _ _ _ _ X1.out.2.1
   have b2:Boxed (w1.setRow (A+1) gz) (A+1+1) zi 52:=(show _=_ from setRow_other _ _ _ _ (by omega)).trans X1.out.2.2.1
   exact ⟨b2,(show _=_ from setRow_other _ _ _ _ (by omega)).trans b1,setRow_heap _ _ _ _ _ _ b2,below_setRow (below_setRow X1.out.2.2.2 (by rw [HA.out];omega) _) (by rw [HA.out];omega) _⟩
  go_wp2_with (first|(refine wpList_store_row rfl 50 (.tmp 2) (.tmp 11) rfl (A+1) gz rfl rfl _ _ X1.out.2.1 (by kernel_rfl) rfl (by simp [Value.oneCell']) ?_)|(refine wpList_store_row rfl 52 (.tmp 3) (.tmp 12) rfl (A+1+1) zi rfl rfl _ _ P1.out.1 (by kernel_rfl) rfl (by simp [Value.oneCell']) ?_))
  refine bodyPost_ret (results_rrt Tryz.results8 _ _ (A+1) (A+1+1) _ _ gz zi _ _ _ _ (.int .i64 (-2)) rfl rfl rfl P1.out.2.1 P1.out.2.2.1 Tryz.underlying50 rfl (by kernel_rfl) Tryz.underlying52 rfl (by kernel_rfl)) rfl ⟨⟨_,rfl,?_⟩,P1.out.2.2.2⟩
  rw [E2.out]
  exact gtIn_zero _ _ P1.out.2.2.2.size
 have A3':Hid _:=A3.out (by simp)
 clear Hno A3
 go_wp2_with (refine wpList_load_row rfl 50 (.tmp 1) rfl A rfl _ _ _ _ X1.out.1 Tryz.underlying50 rfl (by rw [H1.out.1];kernel_rfl) ?_)
 refine (A2'.out _ (K.out _ X1.out.2.2.2).1).mono ?_
 rintro e w2 ⟨⟨x',f,vs,rs,rfl,-,gw,fi,fa⟩,q⟩
 have hu1:=X1.out.2.2.1.under
 have X2:Hid (Boxed w2 (A+1) gz 50∧Boxed w2 (A+1+1) zi 52∧Below w.heap.size w w2∧A+3≤w2.heap.size):=⟨X1.out.2.1.below X1.out.2.1.under q,X1.out.2.2.1.below X1.out.2.2.1.under q,X1.out.2.2.2.trans (q.mono X1.out.2.2.2.size),by have:=q.size;omega⟩
 have M2:Hid (GtW w2 x' f g∧f.In (A+3) w2.heap.size∧f.Apart):=⟨gw,fi.wide (by omega) nlr,fa⟩
 clear gw fi fa q X1 A2' hu1
 have hc':=Hcs.out x'
 have A4:Hid _:=fun lo f B k W h1=>A3'.out lo x' f B k W h1
 generalize g.cells x'=c' at hc' A4 ⊢
 have H2:Hid (c'.size=14∧c'.all (·.oneCell')=true):=hc'
 clear hc' A3' Hcs
 obtain ⟨WA,hWA⟩:∃ z,z=(w2.alloc (.cells gz 50)).alloc (.cells zi 52):=⟨_,rfl⟩
 have bA:Hid (Below w2.heap.size w2 WA):=by rw [hWA];exact ((Below.refl _ _).alloc nlr _).alloc (by simp) _
 have N1:Hid (Boxed WA w2.heap.size gz 50∧Boxed WA (w2.heap.size+1) zi 52):=by
  rw [hWA]
  refine ⟨(Boxed.new w2 _ _).more _,?_⟩
  have:=Boxed.new (w2.alloc (.cells gz 50)) zi 52
  simpa using this
 have HWA:Hid (WA=_):=hWA
 clear hWA
 have N2:Hid (Boxed (WA.setRow w2.heap.size c') (w2.heap.size+1) zi 52):=(setRow_other _ _ _ _ (by omega)).trans N1.out.2
 go_upto_region 4 with (first|(rw [← HWA.out];refine wpList_store_row rfl 50 (.tmp 5) (.tmp 14) rfl w2.heap.size c' rfl rfl _ _ N1.out.1 (by rw [H2.out.1];kernel_rfl) (by rw [H2.out.1];rfl) H2.out.2 ?_)|(refine wpList_store_row rfl 52 (.tmp 6) (.tmp 15) rfl (w2.heap.size+1) zi rfl rfl _ _ N2.out (by kernel_rfl) rfl (by simp [Value.oneCell']) ?_))
 try simp only [Act.put]
 have b3:Below w2.heap.size w2 ((WA.setRow w2.heap.size c').setRow (w2.heap.size+1) zi):=below_setRow (below_setRow bA.out nlr _) (by omega) _
 have hB3:Hid (Boxed ((WA.setRow w2.heap.size c').setRow (w2.heap.size+1) zi) w2.heap.size c' 50∧Boxed ((WA.setRow w2.heap.size c').setRow (w2.heap.size+1) zi) (w2.heap.size+1) zi 52):=⟨(setRow_other _ _ _ _ (by omega)).trans (setRow_heap _ _ _ _ _ _ N1.out.1),setRow_heap _ _ _ _ _ _ N2.out⟩
 have X3:Hid (Boxed ((WA.setRow w2.heap.size c').setRow (w2.heap.size+1) zi) (A+1) gz 50∧Boxed ((WA.setRow w2.heap.size c').setRow (w2.heap.size+1) zi) (A+1+1) zi 52∧Below w.heap.size w ((WA.setRow w2.heap.size c').setRow (w2.heap.size+1) zi)∧A+3≤w2.heap.size):=⟨X2.out.1.below X2.out.1.under b3,X2.out.2.1.below X2.out.2.1.under b3,X2.out.2.2.1.trans (b3.mono X2.out.2.2.1.size),X2.out.2.2.2⟩
 have M3:Hid (GtW ((WA.setRow w2.heap.size c').setRow (w2.heap.size+1) zi) x' f g∧f.In (A+3) w2.heap.size∧f.Apart):=⟨M2.out.1.below b3,M2.out.2⟩
 clear N1 N2 bA HWA b3 X2 M2
 generalize (WA.setRow w2.heap.size c').setRow (w2.heap.size+1) zi=w3 at hB3 X3 M3 ⊢
 generalize w2.heap.size=B at hB3 X3 M3 ⊢
 clear WA
 have b4:Below w3.heap.size w3 (w3.alloc (.cells #[.int .i64 0] 2)):=(Below.refl _ _).alloc nlr _
 have Nb:Boxed (w3.alloc (.cells #[.int .i64 0] 2)) w3.heap.size #[.int .i64 0] 2:=Boxed.new _ _ _
 have bw4:Below w.heap.size w (w3.alloc (.cells #[.int .i64 0] 2)):=X3.out.2.2.1.trans (b4.mono X3.out.2.2.1.size)
 have CL:Hid (Calls Tryz.prog 35 #[.func (.func 36) #[] #[.pointer (some ⟨B,0,none⟩),.pointer (some ⟨B+1,0,none⟩)]] w3 fun e w'=>∃ a w1,e = .returned (.int .i64 a)∧(a=fl∧WentW (A+3) B ga ⟨i0,i1,i2⟩ (w3.alloc (.cells #[.int .i64 0] 2)) w1)∧w'=w1.setCell ⟨w3.heap.size,0,none⟩ (.int .i64 a)):=by
  refine implOrGivenUp _ _ w3 (fun a w1=>a=fl∧WentW (A+3) B ga ⟨i0,i1,i2⟩ (w3.alloc (.cells #[.int .i64 0] 2)) w1) (fun w'=>enters_of Tryz.func36 (by kernel_rfl) rfl _ w') ?_
  refine A4.out (A+3) f B w3.heap.size _ (fun W2 h2=>(K.out W2 ⟨h2.os.trans bw4.os,h2.tape.trans bw4.tape,h2.output.trans bw4.output,Nat.le_trans bw4.size h2.size,fun j hj=>(h2.block j (by rw [HA.out];omega)).trans (bw4.block j hj)⟩).2) (by have:=Hdv.out;rw [HA.out];omega) (hB3.out.1.below hB3.out.1.under b4) (hB3.out.2.below hB3.out.2.under b4) ⟨M3.out.1.below b4,M3.out.2.1,M3.out.2.2,X3.out.2.2.2⟩ hB3.out.2.under (Nb.cell 0 rfl) (Nb.ice 0)
 have hmf:∀ (fn:Fn) (first cap:Array Value) (w:World),(Instr.makeFunc fn first cap).run Tryz.prog w = .ok (.func fn first cap) w:=fun _ _ _ _=>rfl
 have Bs:Hid (B+1<w3.heap.size):=hB3.out.2.under
 have X4:Hid (Boxed (w3.alloc (.cells #[.int .i64 0] 2)) (A+1) gz 50∧Boxed (w3.alloc (.cells #[.int .i64 0] 2)) (A+1+1) zi 52∧Below w.heap.size w (w3.alloc (.cells #[.int .i64 0] 2))∧A+3≤B):=⟨X3.out.1.below X3.out.1.under b4,X3.out.2.1.below X3.out.2.1.under b4,bw4,X3.out.2.2.2⟩
 clear A4 b4 Nb bw4 M3 X3 hB3 K
 go_wp2_with fail
 refine CL.out.mono ?_
 rintro e w6 ⟨a,w5,rfl,⟨ha,gn⟩,hw6⟩
 have ha2:=ha.symm
 subst ha2
 obtain ⟨⟨x7,f7,u1,u2,u3,u4,u7⟩,u8,u5,u6⟩:=gn
 have hsz:w6.heap.size=w5.heap.size:=by rw [hw6];simp [World.setCell]
 have Ne:Hid ((∀ j,j≠w3.heap.size→w6.heap[j]? = w5.heap[j]?)∧w6.heap.size=w5.heap.size):=⟨fun j hj=>by rw [hw6];exact Below.heap_setCell _ _ _ _ hj,hsz⟩
 have R5:Hid (Boxed w6 B (ga.cells x7) 50∧Boxed w6 (A+1) gz 50∧Boxed w6 (A+1+1) zi 52∧Below w.heap.size w w6∧Boxed w6 (B+1) (ic i0 i1 i2) 52):=by
  have hb:=Bs.out
  have x4:=X4.out
  have hA:=HA.out
  have e0:w5.heap[A+1]? = (w3.alloc (.cells #[.int .i64 0] 2)).heap[A+1]? := u5.block _ (by omega)
  have e1:w5.heap[A+1+1]? = (w3.alloc (.cells #[.int .i64 0] 2)).heap[A+1+1]? := u5.block _ (by omega)
  have q:Below w.heap.size w w5:=x4.2.2.1.trans (u5.mono (by omega))
  have hw3:w.heap.size≤w3.heap.size:=by omega
  refine ⟨(Ne.out.1 B (by omega)).trans u1,((Ne.out.1 _ (by omega)).trans e0).trans x4.1,((Ne.out.1 _ (by omega)).trans e1).trans x4.2.1,?_,(Ne.out.1 _ (by omega)).trans u8⟩
  rw [hw6]
  exact q.setCell hw3 _
 have hx7:=Hca.out x7
 have Fi:Hid (∀ W,(∀ k,A+3≤k→k≠w3.heap.size→W.heap[k]? = w6.heap[k]?)→w6.heap.size≤W.heap.size→GtIn w.heap.size W.heap.size W (.agg (ga.cells x7)) ga):=fun W h1 h2 =>
  ⟨x7,f7,rfl,u2.off2 (u7 w3.heap.size (by have:=Bs.out;omega) (by simp)) u3 nlr (by have:=Ne.out.2;omega) (fun k k1 k2 _=>(h1 k k1 k2).trans (Ne.out.1 k k2)),u3.wide (by rw [HA.out];omega) (by have:=Ne.out.2;omega),u4,nlr⟩
 have OO:Hid (A+3≤B):=X4.out.2.2.2
 generalize ga.cells x7=c2 at hx7 R5 Fi
 have Hx2:Hid (c2.size=14∧c2.all (·.oneCell')=true):=hx7
 clear u1 u2 u3 u4 u5 u6 u7 u8 hx7 hw6 hsz Ne CL X4 Hca
 generalize w3.heap.size=S3 at Fi Bs
 obtain ⟨w5',hw5'⟩:∃ z,z=w6:=⟨_,rfl⟩
 subst hw5'
 go_upto_region 5 with fail
 refine region_lists (G:=Unit) (by kernel_rfl) (by kernel_rfl) (by kernel_rfl) (fun i=>99) (fun (L:Nat→Bool) (_:Unit) (z:World)=>Boxed z B c2 50∧Boxed z (B+1) (ic i0 i1 i2) 52∧(L 3=false→Boxed z (A+1) gz 50)∧(L 3=true→Boxed z (A+1) c2 50)∧(L 4=false→Boxed z (A+1+1) zi 52)∧(L 4=true→Boxed z (A+1+1) (ic i0 i1 i2) 52)∧((∀ k,A+3≤k→z.heap[k]? = w5'.heap[k]?)∧z.heap.size=w5'.heap.size)∧Below w.heap.size w z) (fun i (_:Unit) z (_:Unit) z'=>True) (fun i y x u=>([fun _ _ u=>u = .agg c2,fun _ _ u=>u = .agg (ic i0 i1 i2),fun _ _ u=>u = .int .i64 fl,fun _ _ _=>True,fun _ _ _=>True,fun _ _ u=>u = .int .i64 fl]:List (Unit→World→Value→Prop)).getD i (fun _ _ _=>True) y x u) ?hR () ?h0 ?step ?last
 case hR =>
  intro i j y y' x x' u hi hj hne hu h1 h2 hp hr
  have hi':i<6:=hi
  have hj':j<6:=hj
  have hcases:j=0∨j=1∨j=2∨j=3∨j=4∨j=5:=by omega
  rcases hcases with rfl|rfl|rfl|rfl|rfl|rfl
  ·exact hp
  ·exact hp
  ·exact hp
  ·exact hp
  ·exact hp
  ·exact hp
 case h0=>exact ⟨R5.out.1,R5.out.2.2.2.2,fun _=>R5.out.2.1,fun h=>by simp at h,fun _=>R5.out.2.2.1,fun h=>by simp at h,⟨fun _ _=>rfl,rfl⟩,R5.out.2.2.2.1.drew⟩
 case step =>
  intro i o hi ho L a' y x hLi hwt hre hkp hI hp
  have s2:a'.tmps[2]?.getD undef = .pointer (some ⟨A+1,0,none⟩):=tq (hkp.slot 2 (by kernel_rfl))
  have s3:a'.tmps[3]?.getD undef = .pointer (some ⟨A+1+1,0,none⟩):=tq (hkp.slot 3 (by kernel_rfl))
  have s5:a'.tmps[5]?.getD undef = .pointer (some ⟨B,0,none⟩):=tq (hkp.slot 5 (by kernel_rfl))
  have s6:a'.tmps[6]?.getD undef = .pointer (some ⟨B+1,0,none⟩):=tq (hkp.slot 6 (by kernel_rfl))
  have s7:a'.tmps[7]?.getD undef = .int .i64 fl:=tq (hkp.slot 7 (by kernel_rfl))
  have hi':i<6:=hi
  have hcases:i=0∨i=1∨i=2∨i=3∨i=4∨i=5:=by omega
  rcases hcases with rfl|rfl|rfl|rfl|rfl|rfl
  ·cases ho
   obtain ⟨j1,j2,j3,j4,j5,j6,j7,j8⟩:=hI
   exact ⟨wno rfl,wp_load_row 50 (.tmp 5) rfl (B) (by simpa [Act.eval] using s5) _ _ _ _ j1 Tryz.underlying50 rfl (by rw [Hx2.out.1];kernel_rfl) ⟨_,y,rfl,trivial,⟨j1,j2,fun h=>j3 (by simpa using h),fun h=>j4 (by simpa using h),fun h=>j5 (by simpa using h),fun h=>j6 (by simpa using h),j7,j8⟩,fun u hu=>hu (fun h=>by cases h)⟩⟩
  ·cases ho
   obtain ⟨j1,j2,j3,j4,j5,j6,j7,j8⟩:=hI
   exact ⟨wno rfl,wp_load_row 52 (.tmp 6) rfl (B+1) (by simpa [Act.eval] using s6) _ _ _ _ j2 Tryz.underlying52 rfl (by kernel_rfl) ⟨_,y,rfl,trivial,⟨j1,j2,fun h=>j3 (by simpa using h),fun h=>j4 (by simpa using h),fun h=>j5 (by simpa using h),fun h=>j6 (by simpa using h),j7,j8⟩,fun u hu=>hu (fun h=>by cases h)⟩⟩
  ·cases ho
   obtain ⟨j1,j2,j3,j4,j5,j6,j7,j8⟩:=hI
   exact rs_val rfl (fun h=>by cases h) (.int .i64 fl) y (by simp [go_sem,s7]) trivial (⟨j1,j2,fun h=>j3 (by simpa using h),fun h=>j4 (by simpa using h),fun h=>j5 (by simpa using h),fun h=>j6 (by simpa using h),j7,j8⟩) rfl
  ·cases ho
   obtain ⟨j1,j2,j3,j4,j5,j6,j7,j8⟩:=hI
   have e1:a'.tmps.getD 18 undef = .agg c2:=hp 0 (od (by kernel_rfl)) (.inr (by decide))
   exact ⟨wno rfl,wp_store_row 50 (.tmp 2) (.tmp 18) rfl (A+1) c2 (by simpa [Act.eval] using s2) (by simpa [Act.eval] using e1) _ _ (j3 hLi) (by rw [Hx2.out.1];kernel_rfl) (by rw [Hx2.out.1];rfl) Hx2.out.2 ⟨undef,(),rfl,trivial,⟨(show _=_ from setRow_other _ _ _ _ (by have:=OO.out;omega)).trans j1,(show _=_ from setRow_other _ _ _ _ (by have:=OO.out;omega)).trans j2,fun h=>by simp at h,fun _=>setRow_heap _ _ _ _ _ _ (j3 hLi),fun h=>(show _=_ from setRow_other _ _ _ _ (by have:=OO.out;omega)).trans (j5 (by simpa using h)),fun h=>(show _=_ from setRow_other _ _ _ _ (by have:=OO.out;omega)).trans (j6 (by simpa using h)),⟨fun k hk=>(setRow_other _ _ _ _ (by omega)).trans (j7.1 k hk),(size_setRow _ _ _).trans j7.2⟩,below_setRow j8 (by rw [HA.out];omega) _⟩,fun _ _=>trivial⟩⟩
  ·cases ho
   obtain ⟨j1,j2,j3,j4,j5,j6,j7,j8⟩:=hI
   have e1:a'.tmps.getD 19 undef = .agg (ic i0 i1 i2):=hp 1 (od (by kernel_rfl)) (.inr (by decide))
   exact ⟨wno rfl,wp_store_row 52 (.tmp 3) (.tmp 19) rfl (A+1+1) (ic i0 i1 i2) (by simpa [Act.eval] using s3) (by simpa [Act.eval] using e1) _ _ (j5 hLi) (by kernel_rfl) rfl (by simp [Value.oneCell']) ⟨undef,(),rfl,trivial,⟨(show _=_ from setRow_other _ _ _ _ (by have:=OO.out;omega)).trans j1,(show _=_ from setRow_other _ _ _ _ (by have:=OO.out;omega)).trans j2,fun h=>(show _=_ from setRow_other _ _ _ _ (by have:=OO.out;omega)).trans (j3 (by simpa using h)),fun h=>(show _=_ from setRow_other _ _ _ _ (by have:=OO.out;omega)).trans (j4 (by simpa using h)),fun h=>by simp at h,fun _=>setRow_heap _ _ _ _ _ _ (j5 hLi),⟨fun k hk=>(setRow_other _ _ _ _ (by omega)).trans (j7.1 k hk),(size_setRow _ _ _).trans j7.2⟩,below_setRow j8 (by rw [HA.out];omega) _⟩,fun _ _=>trivial⟩⟩
  ·cases ho
   obtain ⟨j1,j2,j3,j4,j5,j6,j7,j8⟩:=hI
   have e1:a'.tmps.getD 20 undef = .int .i64 fl:=hp 2 (od (by kernel_rfl)) (.inr (by decide))
   refine ⟨wno rfl,op_assignZ 20 rfl ?_⟩
   rw [e1]
   exact ⟨_,(),rfl,trivial,⟨j1,j2,fun h=>j3 (by simpa using h),fun h=>j4 (by simpa using h),fun h=>j5 (by simpa using h),fun h=>j6 (by simpa using h),j7,j8⟩,fun u hu=>hu (fun h=>by cases h)⟩
 case last =>
 intro L a' y x hall hkp hI hp
 have e4:a'.tmps.getD 4 undef = .int .i64 fl:=hp 5 (by decide) (by decide)
 obtain ⟨-,-,-,k4,-,k6,k7,k8⟩:=hI
 have Zf:Hid (Boxed x (A+1) c2 50∧Boxed x (A+1+1) (ic i0 i1 i2) 52∧Below w.heap.size w x∧(∀ k,A+3≤k→x.heap[k]? = w5'.heap[k]?)∧x.heap.size=w5'.heap.size):=⟨k4 (hall 3 (by decide)),k6 (hall 4 (by decide)),k8,k7⟩
 have ha:=hkp.pick [true,true,true,true,false,true,true,true,true,true,true,true,true,true,true,true,true,true,false,false,false] (by kernel_rfl)
 simp only [pickS] at ha
 clear hp hkp hall k4 k6 k7 k8
 have E4:Hid (a'.tmps.getD 4 undef = .int .i64 fl):=e4
 clear e4
 generalize a'.tmps.getD 4 undef=y4 at ha E4
 generalize a'.tmps.getD 18 undef=y18 at ha
 generalize a'.tmps.getD 19 undef=y19 at ha
 generalize a'.tmps.getD 20 undef=y20 at ha
 have e4:y4 = .int .i64 fl:=E4.out
 subst e4
 clear E4
 rw [ha]
 clear ha
 go_wp2_with fail
 refine bodyPost_ret (results_rrt Tryz.results8 _ _ (A+1) (A+1+1) _ _ c2 (ic i0 i1 i2) _ _ _ _ (.int .i64 fl) rfl rfl rfl Zf.out.1 Zf.out.2.1 Tryz.underlying50 rfl (by rw [Hx2.out.1];kernel_rfl) Tryz.underlying52 rfl (by kernel_rfl)) rfl ⟨⟨_,rfl,?_⟩,Zf.out.2.2.1⟩
 exact Fi.out x (fun k k1 _=>Zf.out.2.2.2.1 k k1) (Nat.le_of_eq Zf.out.2.2.2.2.symm)
theorem fnExactOut_walk (g:Gt) (x:Ga) (w:World) (G:Dv w) (hl:GtLen g) (h:Hid (GtV w x g)) :
 Calls Tryz.prog 3 #[g.val x] w fun e w'=>e = .returned (.bool true)∧Bel w w' :=
 fnExactOut_of w (fun g v w2 hb hB h=>implOutG g v w2 hB (G.on hb) h) g x hl h
end Go.Proofs.YtgebghkcikmfaaaGreatDoor
