import Derived.Lib.Strings
import Derived.Lib.AppendStr
import Derived.Laws.BytesString
import Derived.Laws.Concat
import Derived.Test.YtgebghkcikmfaaaGreatDoorQP27GtOkS
import Derived.Test.YtgebghkcikmfaaaGreatDoorQP22GtCopyS
import Derived.Test.YtgebghkcikmfaaaGreatDoorQP36GtOutS
set_option maxHeartbeats 6400000
set_option maxRecDepth 100000
namespace Go.Proofs.YtgebghkcikmfaaaGreatDoor
open Go.RowKit
def Gt.goG (g:Gt):Gt:=if g.ok=true then g.out else Gt.zero
def Gt.goI (g:Gt):It:=if g.ok=true then g.outI else ⟨0,0,0⟩
def Gt.goL (g:Gt):Int:=if g.ok=true then g.outL else -2
theorem results_row_row_tmp {P:Program} {fn:Func} {p q x:Tmp} {ty tz:TypeId} (h:fn.results=#[.cell p ty,.cell q tz,.tmp x]) (tmps:Array Value) (w:World) (g k:Nat) (t u:TypeId) (cs ds:Array Value) (fr gr:Nat×Nat) (d d':TypeDesc) (v:Value)
 (hp:tmps.getD p undef = .pointer (some ⟨g,0,none⟩)) (hq:tmps.getD q undef = .pointer (some ⟨k,0,none⟩)) (hv:tmps.getD x undef=v) (hg:w.heap[g]? = some (.cells cs t fr)) (hk:w.heap[k]? = some (.cells ds u gr))
 (hu:P.underlying ty=some d) (hd:(match d with | .struct _ | .array _ _=>true|_=>false)=true) (hi:(P.info? ty).map (·.size)=some cs.size)
 (hu':P.underlying tz=some d') (hd':(match d' with | .struct _ | .array _ _=>true|_=>false)=true) (hi':(P.info? tz).map (·.size)=some ds.size) :
 (results fn tmps).run P w = .ok (.tuple #[.agg cs,.agg ds,v]) w:=by
 have hp':tmps[p]?.getD undef = .pointer (some ⟨g,0,none⟩):=by simpa using hp
 have hq':tmps[q]?.getD undef = .pointer (some ⟨k,0,none⟩):=by simpa using hq
 have hv':tmps[x]?.getD undef=v:=by simpa using hv
 simp [results,h,hp',hq',hv',asAddr,run_loadVar_row w g t ty cs fr d hg hu hd hi,run_loadVar_row w k u tz ds gr d' hk hu' hd' hi']
theorem specOut (g:Gt) (v:Value) (w:World) (hB:g.big≤1048576) (h:Hid (GtAt w v g)) :
 Calls Tryz.prog 6 #[v] w fun e w'=>(∃ v',e = .returned (.tuple #[v',.agg #[.int .i64 g.goI.id,.int .i64 g.goI.size,.int .i64 g.goI.tm],.int .i64 g.goL])∧GtLie w.heap.size w'.heap.size w' v' g.goG)∧Below w.heap.size w w':=by
 obtain ⟨x,rfl,hG⟩:=h.out
 have A1:=fun w' (hh:Hid (GtV w' x g))=>specGateOk g x w' hB hh
 have A2:=fun w' (hh:Hid (GtV w' x g))=>specCopyG g x w' hB hh
 have A3:Hid (g.ok=true→∀ b B x' vs rs w',b≤B→GtB b B w' x' vs rs g→Calls Tryz.prog 24 #[.pointer (some ⟨B,0,none⟩)] w' fun e w2=>e = .returned (.tuple #[.agg #[.int .i64 g.goI.id,.int .i64 g.goI.size,.int .i64 g.goI.tm],.int .i64 g.goL])∧(∃ x2 vs2 rs2,GtB b B w2 x2 vs2 rs2 g.goG)∧Below b w' w2):=(fun e1 b B x' vs rs w' hbB hh=>by
  have q:=specOutP b B x' vs rs g w' e1 (Nat.le_trans hbB (Nat.le_of_lt hh.box.under)) hbB hh
  have e2:g.goL=g.outL:=by unfold Gt.goL;rw [if_pos e1]
  have e3:g.goG=g.out:=by unfold Gt.goG;rw [if_pos e1]
  have e4:g.goI=g.outI:=by unfold Gt.goI;rw [if_pos e1]
  rw [e2,e3,e4]
  exact q)
 have N1:Hid (g.ok=false→g.goL = -2∧g.goG=Gt.zero∧g.goI=⟨0,0,0⟩):=fun e=>⟨by unfold Gt.goL;rw [e];rfl,by unfold Gt.goG;rw [e];rfl,by unfold Gt.goI;rw [e];rfl⟩
 have K:Hid (∀ w',Below w.heap.size w w'→GtV w' x g):=fun w' q=>hG.below q
 generalize g.ok=ok at A1 A3 N1
 generalize g.goL=fl at A3 N1 ⊢
 generalize g.goG=ga at A3 N1 ⊢
 generalize g.goI=gi at A3 N1 ⊢
 obtain ⟨i0,i1,i2⟩:=gi
 simp only at A3 ⊢
 have hs:=Gt.cells_size g x
 have hone:=Gt.cells_one g x
 unfold Gt.val at A1 A2 ⊢
 have Sh:Hid (∀ x':Ga,(g.cells x').size=14∧(g.cells x').all (·.oneCell')=true):=fun x'=>⟨Gt.cells_size g x',Gt.cells_one g x'⟩
 have Sa:Hid (∀ x':Ga,(ga.cells x').size=14∧(ga.cells x').all (·.oneCell')=true):=fun x'=>⟨Gt.cells_size ga x',Gt.cells_one ga x'⟩
 generalize g.cells x=cs at A1 A2 hs hone ⊢
 have A1':Hid _:=A1
 have A2':Hid _:=A2
 have Hs:Hid (cs.size=14∧cs.all (·.oneCell')=true):=⟨hs,hone⟩
 clear A1 A2 h hG hs hone
 obtain ⟨A,hA⟩:∃ A,A=w.heap.size:=⟨_,rfl⟩
 obtain ⟨W0,hW⟩:∃ W,W=((w.alloc (.cells cs 50)).alloc (.cells gz 50)).alloc (.cells zi 52):=⟨_,rfl⟩
 have X:Hid (Boxed W0 A cs 50∧Boxed W0 (A+1) gz 50∧Boxed W0 (A+1+1) zi 52∧Below w.heap.size w W0∧A+3≤W0.heap.size):=by
  rw [hW,hA]
  refine ⟨((Boxed.new w _ _).more _).more _,?_,?_,(((Below.refl _ _).alloc nlr _).alloc (by simp) _).alloc (by simp;omega) _,by simp⟩
  ·have:=(Boxed.new (w.alloc (.cells cs 50)) gz 50).more (.cells zi 52)
   simpa using this
  ·have:=Boxed.new ((w.alloc (.cells cs 50)).alloc (.cells gz 50)) zi 52
   simpa using this
 have HW:Hid (W0=_):=hW
 have HA:Hid (A=w.heap.size):=hA
 clear hW hA
 go_enter Tryz.func6,Tryz.ntmps6
 go_upto_region 1 with fail
 rw [← HW.out,← HA.out]
 clear HW
 go_wp2_with (refine wpList_load_row rfl 50 (.tmp 1) rfl A rfl _ _ _ _ X.out.1 Tryz.underlying50 rfl (by rw [Hs.out.1];kernel_rfl) ?_)
 refine (A1'.out _ (K.out _ X.out.2.2.2.1)).mono ?_
 rintro e w1 ⟨rfl,q⟩
 have X1:Hid (Boxed w1 A cs 50∧Boxed w1 (A+1) gz 50∧Boxed w1 (A+1+1) zi 52∧Below w.heap.size w w1∧A+3≤w1.heap.size):=⟨X.out.1.below X.out.1.under q,X.out.2.1.below X.out.2.1.under q,X.out.2.2.1.below X.out.2.2.1.under q,X.out.2.2.2.1.trans (q.mono X.out.2.2.2.1.size),Nat.le_trans X.out.2.2.2.2 q.size⟩
 clear q X A1'
 cases ok
 ·obtain ⟨e1,e2,e3⟩:=N1.out rfl
  subst e1
  subst e2
  cases e3
  have P1:Hid (Boxed (w1.setRow (A+1) gz) (A+1+1) zi 52∧Boxed ((w1.setRow (A+1) gz).setRow (A+1+1) zi) (A+1) gz 50∧Boxed ((w1.setRow (A+1) gz).setRow (A+1+1) zi) (A+1+1) zi 52∧Below w.heap.size w ((w1.setRow (A+1) gz).setRow (A+1+1) zi)):=by
   have b1:Boxed (w1.setRow (A+1) gz) (A+1) gz 50:=setRow_heap _ _ _ _ _ _ X1.out.2.1
   have b2:Boxed (w1.setRow (A+1) gz) (A+1+1) zi 52:=(show _=_ from setRow_other _ _ _ _ (by omega)).trans X1.out.2.2.1
   exact ⟨b2,(show _=_ from setRow_other _ _ _ _ (by omega)).trans b1,setRow_heap _ _ _ _ _ _ b2,below_setRow (below_setRow X1.out.2.2.2.1 (by rw [HA.out];omega) _) (by rw [HA.out];omega) _⟩
  go_wp2_with (first|(refine wpList_store_row rfl 50 (.tmp 2) (.tmp 11) rfl (A+1) gz rfl rfl _ _ X1.out.2.1 (by kernel_rfl) rfl (by simp [Value.oneCell']) ?_)|(refine wpList_store_row rfl 52 (.tmp 3) (.tmp 12) rfl (A+1+1) zi rfl rfl _ _ P1.out.1 (by kernel_rfl) rfl (by simp [Value.oneCell']) ?_))
  refine bodyPost_ret (results_row_row_tmp Tryz.results6 _ _ (A+1) (A+1+1) _ _ gz zi _ _ _ _ (.int .i64 (-2)) rfl rfl rfl P1.out.2.1 P1.out.2.2.1 Tryz.underlying50 rfl (by kernel_rfl) Tryz.underlying52 rfl (by kernel_rfl)) rfl ⟨⟨_,rfl,?_⟩,P1.out.2.2.2⟩
  exact GtLie.zero _ _
 go_wp2_with (refine wpList_load_row rfl 50 (.tmp 1) rfl A rfl _ _ _ _ X1.out.1 Tryz.underlying50 rfl (by rw [Hs.out.1];kernel_rfl) ?_)
 refine (A2'.out _ (K.out _ X1.out.2.2.2.1)).mono ?_
 rintro e w2 ⟨⟨x',vs,rs,rfl,o⟩,q⟩
 have hx':=Sh.out x'
 have Bx:Hid (∀ W,Boxed W w2.heap.size (g.cells x') 50→GtO w1.heap.size W x' vs rs g→GtB w1.heap.size w2.heap.size W x' vs rs g):=fun W h1 h2=>⟨h1,h2⟩
 generalize g.cells x'=cs' at hx' Bx ⊢
 have Hx':Hid _:=hx'
 have X2:Hid (Boxed w2 (A+1) gz 50∧Boxed w2 (A+1+1) zi 52∧Below w.heap.size w w2∧A+3≤w1.heap.size∧w1.heap.size≤w2.heap.size):=⟨X1.out.2.1.below X1.out.2.1.under q,X1.out.2.2.1.below X1.out.2.2.1.under q,X1.out.2.2.2.1.trans (q.mono X1.out.2.2.2.1.size),X1.out.2.2.2.2,q.size⟩
 have N:Hid (Boxed (w2.alloc (.cells gz 50)) w2.heap.size gz 50):=Boxed.new _ _ _
 have bN:Below w2.heap.size w2 ((w2.alloc (.cells gz 50)).setRow w2.heap.size cs'):=below_setRow ((Below.refl _ _).alloc nlr _) nlr _
 have Y:Hid (GtB w1.heap.size w2.heap.size ((w2.alloc (.cells gz 50)).setRow w2.heap.size cs') x' vs rs g∧Boxed ((w2.alloc (.cells gz 50)).setRow w2.heap.size cs') (A+1) gz 50∧Boxed ((w2.alloc (.cells gz 50)).setRow w2.heap.size cs') (A+1+1) zi 52∧Below w.heap.size w ((w2.alloc (.cells gz 50)).setRow w2.heap.size cs')∧w1.heap.size≤((w2.alloc (.cells gz 50)).setRow w2.heap.size cs').heap.size):=by
  refine ⟨Bx.out _ (setRow_heap _ _ _ _ _ _ N.out) (o.below bN),X2.out.1.below X2.out.1.under bN,X2.out.2.1.below X2.out.2.1.under bN,X2.out.2.2.1.trans (bN.mono X2.out.2.2.1.size),Nat.le_trans X2.out.2.2.2.2 bN.size⟩
 have Or:Hid (A+3≤w1.heap.size∧w1.heap.size≤w2.heap.size):=X2.out.2.2.2
 clear q o hx' bN Bx X1 A2'
 go_upto_region 4 with (refine wpList_store_row rfl 50 (.tmp 5) (.tmp 14) rfl w2.heap.size cs' rfl rfl _ _ N.out (by rw [Hx'.out.1];kernel_rfl) (by rw [Hx'.out.1];rfl) Hx'.out.2 ?_)
 simp only [Act.put]
 generalize (w2.alloc (.cells gz 50)).setRow w2.heap.size cs'=w3 at Y ⊢
 generalize w2.heap.size=B at Y Or ⊢
 clear N X2 Hx'
 go_wp2_with fail
 refine (A3.out (by first|exact trivial|exact rfl) w1.heap.size B x' vs rs w3 Or.out.2 Y.out.1).mono ?_
 rintro e w4 ⟨rfl,⟨x2,vs2,rs2,gb⟩,q⟩
 have hx2:=Sa.out x2
 have Gb:Hid (GtO w1.heap.size w4 x2 vs2 rs2 ga):=gb.own
 have R4:Hid (Boxed w4 B (ga.cells x2) 50∧Boxed w4 (A+1) gz 50∧Boxed w4 (A+1+1) zi 52∧Below w.heap.size w w4):=⟨gb.box,Y.out.2.1.below (by have:=Or.out;omega) q,Y.out.2.2.1.below (by have:=Or.out;omega) q,Y.out.2.2.2.1.trans (q.mono (by have:=Or.out;have:=HA.out;omega))⟩
 have Fin:Hid (∀ W,(∀ k,A+3≤k→k<w4.heap.size→W.heap[k]? = w4.heap[k]?)→GtLie w.heap.size W.heap.size W (.agg (ga.cells x2)) ga):=fun W hk=>by
  have h1:GtO w1.heap.size W x2 vs2 rs2 ga:=Gb.out.other fun k k1 k2=>hk k (by have:=Or.out;omega) k2
  exact (h1.mono (by have:=Or.out;have:=HA.out;omega)).lie
 generalize ga.cells x2=c2 at hx2 R4 Fin
 have Hx2:Hid (c2.size=14∧c2.all (·.oneCell')=true):=hx2
 clear gb Gb q Y A3 hx2 K
 have N:Hid (Boxed (w4.alloc (.cells zi 52)) w4.heap.size zi 52):=Boxed.new _ _ _
 have bN:Below w4.heap.size w4 ((w4.alloc (.cells zi 52)).setRow w4.heap.size (ic i0 i1 i2)):=below_setRow ((Below.refl _ _).alloc nlr _) nlr _
 have R5:Hid (Boxed ((w4.alloc (.cells zi 52)).setRow w4.heap.size (ic i0 i1 i2)) B c2 50∧Boxed ((w4.alloc (.cells zi 52)).setRow w4.heap.size (ic i0 i1 i2)) (A+1) gz 50∧Boxed ((w4.alloc (.cells zi 52)).setRow w4.heap.size (ic i0 i1 i2)) (A+1+1) zi 52∧Below w.heap.size w ((w4.alloc (.cells zi 52)).setRow w4.heap.size (ic i0 i1 i2))∧Boxed ((w4.alloc (.cells zi 52)).setRow w4.heap.size (ic i0 i1 i2)) w4.heap.size (ic i0 i1 i2) 52∧(∀ k,A+3≤k→k<w4.heap.size→((w4.alloc (.cells zi 52)).setRow w4.heap.size (ic i0 i1 i2)).heap[k]? = w4.heap[k]?)∧B<w4.heap.size):=⟨R4.out.1.below R4.out.1.under bN,R4.out.2.1.below R4.out.2.1.under bN,R4.out.2.2.1.below R4.out.2.2.1.under bN,R4.out.2.2.2.trans (bN.mono R4.out.2.2.2.size),setRow_heap _ _ _ _ _ _ N.out,fun k _ k2=>bN.block k k2,R4.out.1.under⟩
 clear bN R4
 go_upto_region 5 with (refine wpList_store_row rfl 52 (.tmp 6) (.tmp 17) rfl w4.heap.size (ic i0 i1 i2) rfl rfl _ _ N.out (by kernel_rfl) rfl (by simp [Value.oneCell']) ?_)
 try simp only [Act.put]
 clear N
 generalize (w4.alloc (.cells zi 52)).setRow w4.heap.size (ic i0 i1 i2)=w5 at R5 ⊢
 generalize w4.heap.size=X at R5 Fin ⊢
 have OO:Hid (A+3≤B∧B<X):=⟨by have:=Or.out;omega,R5.out.2.2.2.2.2.2⟩
 refine region_lists (G:=Unit) (by kernel_rfl) (by kernel_rfl) (by kernel_rfl) (fun i=>99) (fun (L:Nat→Bool) (_:Unit) (z:World)=>Boxed z B c2 50∧Boxed z X (ic i0 i1 i2) 52∧(L 3=false→Boxed z (A+1) gz 50)∧(L 3=true→Boxed z (A+1) c2 50)∧(L 4=false→Boxed z (A+1+1) zi 52)∧(L 4=true→Boxed z (A+1+1) (ic i0 i1 i2) 52)∧(∀ k,A+3≤k→z.heap[k]? = w5.heap[k]?)∧Below w.heap.size w z) (fun i (_:Unit) z (_:Unit) z'=>True) (fun i y x u=>([fun _ _ u=>u = .agg c2,fun _ _ u=>u = .agg (ic i0 i1 i2),fun _ _ u=>u = .int .i64 fl,fun _ _ _=>True,fun _ _ _=>True,fun _ _ u=>u = .int .i64 fl]:List (Unit→World→Value→Prop)).getD i (fun _ _ _=>True) y x u) ?hR () ?h0 ?step ?last
 case hR =>
  intro i j y y' x x' u hi hj hne hu h1 h2 hp hr
  have hi':i<6:=hi
  have hj':j<6:=hj
  have hcases:j=0∨j=1∨j=2∨j=3∨j=4∨j=5:=by omega
  rcases hcases with rfl|rfl|rfl|rfl|rfl|rfl
  ·exact hp
  ·exact hp
  ·exact hp
  ·exact hp
  ·exact hp
  ·exact hp
 case h0=>exact ⟨R5.out.1,R5.out.2.2.2.2.1,fun _=>R5.out.2.1,fun h=>by simp at h,fun _=>R5.out.2.2.1,fun h=>by simp at h,fun _ _=>rfl,R5.out.2.2.2.1.drew⟩
 case step =>
  intro i o hi ho L a' y x hLi hwt hre hkp hI hp
  have s2:a'.tmps[2]?.getD undef = .pointer (some ⟨A+1,0,none⟩):=by have h2:a'.tmps.getD 2 undef = .pointer (some ⟨A+1,0,none⟩):=hkp.slot 2 (by kernel_rfl);simpa using h2
  have s3:a'.tmps[3]?.getD undef = .pointer (some ⟨A+1+1,0,none⟩):=by have h2:a'.tmps.getD 3 undef = .pointer (some ⟨A+1+1,0,none⟩):=hkp.slot 3 (by kernel_rfl);simpa using h2
  have s5:a'.tmps[5]?.getD undef = .pointer (some ⟨B,0,none⟩):=by have h2:a'.tmps.getD 5 undef = .pointer (some ⟨B,0,none⟩):=hkp.slot 5 (by kernel_rfl);simpa using h2
  have s6:a'.tmps[6]?.getD undef = .pointer (some ⟨X,0,none⟩):=by have h2:a'.tmps.getD 6 undef = .pointer (some ⟨X,0,none⟩):=hkp.slot 6 (by kernel_rfl);simpa using h2
  have s7:a'.tmps[7]?.getD undef = .int .i64 fl:=by have h2:a'.tmps.getD 7 undef = .int .i64 fl:=hkp.slot 7 (by kernel_rfl);simpa using h2
  have hi':i<6:=hi
  have hcases:i=0∨i=1∨i=2∨i=3∨i=4∨i=5:=by omega
  rcases hcases with rfl|rfl|rfl|rfl|rfl|rfl
  ·cases ho
   obtain ⟨j1,j2,j3,j4,j5,j6,j7,j8⟩:=hI
   exact ⟨wno rfl,wp_load_row 50 (.tmp 5) rfl (B) (by simpa [Act.eval] using s5) _ _ _ _ j1 Tryz.underlying50 rfl (by rw [Hx2.out.1];kernel_rfl) ⟨_,y,rfl,trivial,⟨j1,j2,fun h=>j3 (by simpa using h),fun h=>j4 (by simpa using h),fun h=>j5 (by simpa using h),fun h=>j6 (by simpa using h),j7,j8⟩,fun u hu=>hu (fun h=>by cases h)⟩⟩
  ·cases ho
   obtain ⟨j1,j2,j3,j4,j5,j6,j7,j8⟩:=hI
   exact ⟨wno rfl,wp_load_row 52 (.tmp 6) rfl (X) (by simpa [Act.eval] using s6) _ _ _ _ j2 Tryz.underlying52 rfl (by kernel_rfl) ⟨_,y,rfl,trivial,⟨j1,j2,fun h=>j3 (by simpa using h),fun h=>j4 (by simpa using h),fun h=>j5 (by simpa using h),fun h=>j6 (by simpa using h),j7,j8⟩,fun u hu=>hu (fun h=>by cases h)⟩⟩
  ·cases ho
   obtain ⟨j1,j2,j3,j4,j5,j6,j7,j8⟩:=hI
   refine ⟨wno rfl,Oper.wp_mono (K:=fun a'' w''=>a''=a'.put (some 21) (.int .i64 fl)∧w''=x) ?_ ?_⟩
   ·rintro _ _ ⟨rfl,rfl⟩
    exact ⟨_,y,rfl,trivial,⟨j1,j2,fun h=>j3 (by simpa using h),fun h=>j4 (by simpa using h),fun h=>j5 (by simpa using h),fun h=>j6 (by simpa using h),j7,j8⟩,fun u hu=>hu (fun h=>by cases h)⟩
   ·unfold Oper.wp
    simp [go_sem,s7]
  ·cases ho
   obtain ⟨j1,j2,j3,j4,j5,j6,j7,j8⟩:=hI
   have e1:a'.tmps.getD 19 undef = .agg c2:=hp 0 (od (by kernel_rfl)) (.inr (by decide))
   exact ⟨wno rfl,wp_store_row 50 (.tmp 2) (.tmp 19) rfl (A+1) c2 (by simpa [Act.eval] using s2) (by simpa [Act.eval] using e1) _ _ (j3 hLi) (by rw [Hx2.out.1];kernel_rfl) (by rw [Hx2.out.1];rfl) Hx2.out.2 ⟨undef,(),rfl,trivial,⟨(show _=_ from setRow_other _ _ _ _ (by have:=OO.out;omega)).trans j1,(show _=_ from setRow_other _ _ _ _ (by have:=OO.out;omega)).trans j2,fun h=>by simp at h,fun _=>setRow_heap _ _ _ _ _ _ (j3 hLi),fun h=>(show _=_ from setRow_other _ _ _ _ (by have:=OO.out;omega)).trans (j5 (by simpa using h)),fun h=>(show _=_ from setRow_other _ _ _ _ (by have:=OO.out;omega)).trans (j6 (by simpa using h)),fun k hk=>(setRow_other _ _ _ _ (by omega)).trans (j7 k hk),below_setRow j8 (by rw [HA.out];omega) _⟩,fun _ _=>trivial⟩⟩
  ·cases ho
   obtain ⟨j1,j2,j3,j4,j5,j6,j7,j8⟩:=hI
   have e1:a'.tmps.getD 20 undef = .agg (ic i0 i1 i2):=hp 1 (od (by kernel_rfl)) (.inr (by decide))
   exact ⟨wno rfl,wp_store_row 52 (.tmp 3) (.tmp 20) rfl (A+1+1) (ic i0 i1 i2) (by simpa [Act.eval] using s3) (by simpa [Act.eval] using e1) _ _ (j5 hLi) (by kernel_rfl) rfl (by simp [Value.oneCell']) ⟨undef,(),rfl,trivial,⟨(show _=_ from setRow_other _ _ _ _ (by have:=OO.out;omega)).trans j1,(show _=_ from setRow_other _ _ _ _ (by have:=OO.out;omega)).trans j2,fun h=>(show _=_ from setRow_other _ _ _ _ (by have:=OO.out;omega)).trans (j3 (by simpa using h)),fun h=>(show _=_ from setRow_other _ _ _ _ (by have:=OO.out;omega)).trans (j4 (by simpa using h)),fun h=>by simp at h,fun _=>setRow_heap _ _ _ _ _ _ (j5 hLi),fun k hk=>(setRow_other _ _ _ _ (by omega)).trans (j7 k hk),below_setRow j8 (by rw [HA.out];omega) _⟩,fun _ _=>trivial⟩⟩
  ·cases ho
   obtain ⟨j1,j2,j3,j4,j5,j6,j7,j8⟩:=hI
   have e1:a'.tmps.getD 21 undef = .int .i64 fl:=hp 2 (od (by kernel_rfl)) (.inr (by decide))
   refine ⟨wno rfl,op_assignZ 21 rfl ?_⟩
   rw [e1]
   exact ⟨_,(),rfl,trivial,⟨j1,j2,fun h=>j3 (by simpa using h),fun h=>j4 (by simpa using h),fun h=>j5 (by simpa using h),fun h=>j6 (by simpa using h),j7,j8⟩,fun u hu=>hu (fun h=>by cases h)⟩
 case last =>
 intro L a' y x hall hkp hI hp
 have e4:a'.tmps.getD 4 undef = .int .i64 fl:=hp 5 (by decide) (by decide)
 obtain ⟨-,-,-,k4,-,k6,k7,k8⟩:=hI
 have Zf:Hid (Boxed x (A+1) c2 50∧Boxed x (A+1+1) (ic i0 i1 i2) 52∧Below w.heap.size w x∧∀ k,A+3≤k→k<X→x.heap[k]? = w5.heap[k]?):=⟨k4 (hall 3 (by decide)),k6 (hall 4 (by decide)),k8,fun k h1 _=>k7 k h1⟩
 have ha:=hkp.pick [true,true,true,true,false,true,true,true,true,true,true,true,true,true,true,true,true,true,true,false,false,false] (by kernel_rfl)
 simp only [pickS] at ha
 clear hp hkp hall k4 k6 k7 k8
 have E4:Hid (a'.tmps.getD 4 undef = .int .i64 fl):=e4
 clear e4
 generalize a'.tmps.getD 4 undef=y4 at ha E4
 generalize a'.tmps.getD 19 undef=y19 at ha
 generalize a'.tmps.getD 20 undef=y20 at ha
 generalize a'.tmps.getD 21 undef=y21 at ha
 have e4:y4 = .int .i64 fl:=E4.out
 subst e4
 clear E4
 rw [ha]
 clear ha
 go_wp2_with fail
 refine bodyPost_ret (results_row_row_tmp Tryz.results6 _ _ (A+1) (A+1+1) _ _ c2 (ic i0 i1 i2) _ _ _ _ (.int .i64 fl) rfl rfl rfl Zf.out.1 Zf.out.2.1 Tryz.underlying50 rfl (by rw [Hx2.out.1];kernel_rfl) Tryz.underlying52 rfl (by kernel_rfl)) rfl ⟨⟨_,rfl,?_⟩,Zf.out.2.2.1⟩
 exact Fin.out x fun k k1 k2=>(Zf.out.2.2.2 k k1 k2).trans (R5.out.2.2.2.2.2.1 k k1 k2)
theorem Gt.goG_big {g:Gt}:g.goG.big≤1048576:=by
 unfold Gt.goG
 by_cases h:g.ok=true
 ·rw [if_pos h]
  have:=Gt.ok_big (Gt.out_ok h)
  omega
 ·rw [if_neg h,Gt.zero_big]
  omega
end Go.Proofs.YtgebghkcikmfaaaGreatDoor
