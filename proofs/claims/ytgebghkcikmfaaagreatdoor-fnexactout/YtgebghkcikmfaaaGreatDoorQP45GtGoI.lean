import Derived.Defers
import Derived.Recover
import Derived.Test.YtgebghkcikmfaaaGreatDoorQP42FsSoI
import Derived.Test.YtgebghkcikmfaaaGreatDoorQP43RwPopI
import Derived.Test.YtgebghkcikmfaaaGreatDoorQP44SrStirI
set_option maxHeartbeats 12800000
set_option maxRecDepth 100000
namespace Go.Proofs.YtgebghkcikmfaaaGreatDoor
open Go.RowKit
theorem implFirstSize (g:Gt) (x:Ga) (i:Nat) (w:World) (hi:i<g.fair.flows.length) (hs:0<(fwAt g.fair.flows i).sizes.length) (h:FwsAt w x.a7 g.fair.flows) :
 Calls Tryz.prog 106 #[g.val x,.int .i64 (i:Int)] w fun e w'=>e = .returned (.int .i64 (szAt (fwAt g.fair.flows i).sizes 0))∧Bel w w':=by
 have bw:Bel w (w.alloc (.cells (g.cells x) 50)):=(Below.refl _ _).alloc nlr _
 have X0:Hid (Boxed (w.alloc (.cells (g.cells x) 50)) w.heap.size (g.cells x) 50):=Boxed.new _ _ _
 have c11:(w.alloc (.cells (g.cells x) 50)).cell? ⟨w.heap.size,11,none⟩=some (.slice x.a7 g.fair.flows.length x.c7):=X0.out.cell 11 rfl
 have H:=h.below bw
 obtain ⟨b1,o1,ak,ck,ha1,hb1,⟨e0,e1,e2⟩,hr,-,-⟩:=H i hi
 rw [ha1] at c11
 obtain ⟨b2,o2,ha2,hb2,d0⟩:=hr 0 hs
 subst ha2
 have hz:szAt (fwAt g.fair.flows i).sizes 0=(fwAt g.fair.flows i).sizes[0]?.getD 0:=by simp [szAt]
 rw [← hz] at d0
 have hb:Hid (Bel w (w.alloc (.cells (g.cells x) 50))):=bw
 unfold Gt.val
 generalize szAt (fwAt g.fair.flows i).sizes 0=sz at d0 ⊢
 generalize (fwAt g.fair.flows i).sizes.length=m at e2 hs
 generalize g.cells x=cs at X0 c11 d0 e0 e1 e2 hb ⊢
 generalize g.fair.flows.length=n at c11 hi
 have hi':(i:Int)<(n:Int):=by omega
 have hi0:(0:Int)≤(i:Int):=by omega
 have hm:(0:Int)<(m:Int):=by omega
 clear H h bw hr hz
 obtain ⟨W,hW⟩:∃ W,W=w.alloc (.cells cs 50):=⟨_,rfl⟩
 rw [← hW] at c11 d0 e0 e1 e2 hb
 have HW:Hid (W=_):=hW
 clear hW X0
 go_enter Tryz.func106,Tryz.ntmps106
 go_upto_region 1 with fail
 rw [← HW.out]
 clear HW
 simp only [Nat.add_zero] at d0
 go_wp2
 go_ret
 exact ⟨rfl,hb.out⟩
theorem implStayOf (i:It) (now:Int) (w:World) (h0:0≤i.tm∧i.tm≤1099511627776) (h1:0≤now∧now≤1099511627776) :
 Calls Tryz.prog 112 #[.agg (ic i.id i.size i.tm),.int .i64 now] w fun e w'=>e = .returned (.int .i64 (max 0 (min 100000 (now-i.tm))))∧Bel w w':=by
 obtain ⟨a,b,t⟩:=i
 simp only at h0 ⊢
 have kw:IntKind.i64.wrap (now-t)=now-t:=by rw [IntKind.wrap_i64];omega
 have hb:Hid (Bel w (w.alloc (.cells (ic a b t) 52))):=(Below.refl _ _).alloc nlr _
 have hx:Hid (Boxed (w.alloc (.cells (ic a b t) 52)) w.heap.size (ic a b t) 52):=Boxed.new _ _ _
 have c2:=hx.out.cell 2 rfl
 go_enter Tryz.func112,Tryz.ntmps112
 go_wp2
 all_goals (go_ret;exact ⟨ret_num (by omega),hb.out⟩)
theorem implTimeOf (g:Gt) (x:Ga) (w:World) (h0:0<g.tree.length) (hT:g.tree.length≤1048576) (h:NdsAt w x.a3 g.tree) :
 Calls Tryz.prog 113 #[g.val x] w fun e w'=>e = .returned (.int .i64 (ndAt g.tree 0).pz.tm)∧Bel w w':=by
 have bw:Bel w (w.alloc (.cells (g.cells x) 50)):=(Below.refl _ _).alloc nlr _
 have X0:Hid (Boxed (w.alloc (.cells (g.cells x) 50)) w.heap.size (g.cells x) 50):=Boxed.new _ _ _
 have c5:(w.alloc (.cells (g.cells x) 50)).cell? ⟨w.heap.size,5,none⟩=some (.slice x.a3 g.tree.length x.c3):=X0.out.cell 5 rfl
 have H:=h.below bw
 generalize x.a3=a3 at c5 H h
 obtain ⟨b1,o1,ha1,hb1,-⟩:=H 0 h0
 subst ha1
 have d4:=(H.cells (k:=0) h0).2.2.2.2
 have hb:Hid (Bel w (w.alloc (.cells (g.cells x) 50))):=bw
 unfold Gt.val
 generalize (ndAt g.tree 0).pz.tm=tm at d4 ⊢
 generalize g.cells x=cs at X0 c5 d4 hb ⊢
 generalize g.tree.length=n at c5 h0 hT
 have hi:(0:Int)<(n:Int):=by omega
 clear H h bw
 obtain ⟨W,hW⟩:∃ W,W=w.alloc (.cells cs 50):=⟨_,rfl⟩
 rw [← hW] at c5 d4 hb
 have HW:Hid (W=_):=hW
 clear hW X0
 go_enter Tryz.func113,Tryz.ntmps113
 go_upto_region 1 with fail
 rw [← HW.out]
 clear HW
 simp only [Nat.zero_mul,Nat.add_zero] at d4
 go_wp2
 go_ret
 exact ⟨rfl,hb.out⟩
section
variable {lo hi b t c:Nat} {w:World} {a:Option Addr} {x:Ga} {f:Gf} {g:Gt}
theorem Gf.In.rep1 (h:f.In lo hi) (hb:hi≤b) (hl:lo≤b) (ht:b≤t):({ f with b1:=b,t1:=t }:Gf).In lo t:=by
 obtain ⟨l1,h1,l2,h2,l3,h3,l4,h4,l5,h5,l6,h6,l7,h7⟩:=h
 constructor<;>(try simp only)<;>omega
theorem Gf.Apart.rep1 (ap:f.Apart) (h:f.In lo hi) (hb:hi≤b):({ f with b1:=b,t1:=t }:Gf).Apart:=by
 obtain ⟨l1,h1,l2,h2,l3,h3,l4,h4,l5,h5,l6,h6,l7,h7⟩:=h
 obtain ⟨p12,p13,p14,p15,p16,p17,p23,p24,p25,p26,p27,p34,p35,p36,p37,p45,p46,p47,p56,p57,p67⟩:=ap
 constructor<;>(try simp only)<;>omega
theorem Gf.In.rep2 (h:f.In lo hi) (hb:hi≤b) (hl:lo≤b) (ht:b≤t):({ f with b2:=b,t2:=t }:Gf).In lo t:=by
 obtain ⟨l1,h1,l2,h2,l3,h3,l4,h4,l5,h5,l6,h6,l7,h7⟩:=h
 constructor<;>(try simp only)<;>omega
theorem Gf.Apart.rep2 (ap:f.Apart) (h:f.In lo hi) (hb:hi≤b):({ f with b2:=b,t2:=t }:Gf).Apart:=by
 obtain ⟨l1,h1,l2,h2,l3,h3,l4,h4,l5,h5,l6,h6,l7,h7⟩:=h
 obtain ⟨p12,p13,p14,p15,p16,p17,p23,p24,p25,p26,p27,p34,p35,p36,p37,p45,p46,p47,p56,p57,p67⟩:=ap
 constructor<;>(try simp only)<;>omega
theorem GtW.rep3 (h:GtW w x f g) {l:List Nd} (r:NdsW b t w (.slice a l.length c) l):GtW w { x with a3:=a,c3:=c } { f with b3:=b,t3:=t } { g with tree:=l } :=
 ⟨h.routes,h.rules,r,h.leaves,h.rows,h.steers,h.fair⟩
theorem Gf.In.rep3 (h:f.In lo hi) (hb:hi≤b) (hl:lo≤b) (ht:b≤t):({ f with b3:=b,t3:=t }:Gf).In lo t:=by
 obtain ⟨l1,h1,l2,h2,l3,h3,l4,h4,l5,h5,l6,h6,l7,h7⟩:=h
 constructor<;>(try simp only)<;>omega
theorem Gf.Apart.rep3 (ap:f.Apart) (h:f.In lo hi) (hb:hi≤b):({ f with b3:=b,t3:=t }:Gf).Apart:=by
 obtain ⟨l1,h1,l2,h2,l3,h3,l4,h4,l5,h5,l6,h6,l7,h7⟩:=h
 obtain ⟨p12,p13,p14,p15,p16,p17,p23,p24,p25,p26,p27,p34,p35,p36,p37,p45,p46,p47,p56,p57,p67⟩:=ap
 constructor<;>(try simp only)<;>omega
theorem GtW.rep5 (h:GtW w x f g) {l:Rw} (r:RwIn b t w (l.val a c) l):GtW w { x with a5:=a,c5:=c } { f with b5:=b,t5:=t } { g with rows:=l } :=
 ⟨h.routes,h.rules,h.tree,h.leaves,r,h.steers,h.fair⟩
theorem Gf.In.rep5 (h:f.In lo hi) (hb:hi≤b) (hl:lo≤b) (ht:b≤t):({ f with b5:=b,t5:=t }:Gf).In lo t:=by
 obtain ⟨l1,h1,l2,h2,l3,h3,l4,h4,l5,h5,l6,h6,l7,h7⟩:=h
 constructor<;>(try simp only)<;>omega
theorem Gf.Apart.rep5 (ap:f.Apart) (h:f.In lo hi) (hb:hi≤b):({ f with b5:=b,t5:=t }:Gf).Apart:=by
 obtain ⟨l1,h1,l2,h2,l3,h3,l4,h4,l5,h5,l6,h6,l7,h7⟩:=h
 obtain ⟨p12,p13,p14,p15,p16,p17,p23,p24,p25,p26,p27,p34,p35,p36,p37,p45,p46,p47,p56,p57,p67⟩:=ap
 constructor<;>(try simp only)<;>omega
theorem GtW.rep7 (h:GtW w x f g) {l:Fs} (r:FsIn b t w (l.val a c) l):GtW w { x with a7:=a,c7:=c } { f with b7:=b,t7:=t } { g with fair:=l } :=
 ⟨h.routes,h.rules,h.tree,h.leaves,h.rows,h.steers,r⟩
theorem Gf.In.rep7 (h:f.In lo hi) (hb:hi≤b) (hl:lo≤b) (ht:b≤t):({ f with b7:=b,t7:=t }:Gf).In lo t:=by
 obtain ⟨l1,h1,l2,h2,l3,h3,l4,h4,l5,h5,l6,h6,l7,h7⟩:=h
 constructor<;>(try simp only)<;>omega
theorem Gf.Apart.rep7 (ap:f.Apart) (h:f.In lo hi) (hb:hi≤b):({ f with b7:=b,t7:=t }:Gf).Apart:=by
 obtain ⟨l1,h1,l2,h2,l3,h3,l4,h4,l5,h5,l6,h6,l7,h7⟩:=h
 obtain ⟨p12,p13,p14,p15,p16,p17,p23,p24,p25,p26,p27,p34,p35,p36,p37,p45,p46,p47,p56,p57,p67⟩:=ap
 constructor<;>(try simp only)<;>omega
end
theorem SrsW.put {b t:Nat} {w:World} {sk off c:Nat} {l:List Sr} (h:SrsW b t w (.slice (some ⟨sk,off,none⟩) l.length c) l) {k:Nat} (hk:k<l.length) (r:Sr) :
 SrsW b t (((w.setCell ⟨sk,off+k*3,none⟩ (.int .i64 r.target)).setCell ⟨sk,off+k*3+1,none⟩ (.int .i64 r.old)).setCell ⟨sk,off+k*3+2,none⟩ (.int .i64 r.prob)) (.slice (some ⟨sk,off,none⟩) (l.set k r).length c) (l.set k r) ∧
 Span b t w (((w.setCell ⟨sk,off+k*3,none⟩ (.int .i64 r.target)).setCell ⟨sk,off+k*3+1,none⟩ (.int .i64 r.old)).setCell ⟨sk,off+k*3+2,none⟩ (.int .i64 r.prob)):=by
 obtain ⟨h1,a,d,e,h2,h3⟩:=h
 cases e
 have hl:=srcells_length l
 have p1:=SlIn.put h1 (k*3) (by omega) (.int .i64 r.target)
 have p2:=SlIn.put p1 (k*3+1) (by rw [List.length_set];omega) (.int .i64 r.old)
 have p3:=SlIn.put p2 (k*3+2) (by simp only [List.length_set];omega) (.int .i64 r.prob)
 rw [srcells_set] at p3
 obtain ⟨g0,o0,e0,b1,b2,b3⟩:=SlIn.some h1 (srcells_ne (by omega))
 cases e0
 refine ⟨⟨?_,_,_,rfl,by rw [List.length_set];exact h2,h3⟩,⟨rfl,rfl,rfl,by simp [World.setCell],fun j _ hj=>?_⟩⟩
 ·unfold SrIn
  rw [List.length_set]
  exact p3
 ·have hne:j≠sk:=by omega
  exact ((Below.heap_setCell _ _ _ _ hne).trans (Below.heap_setCell _ _ _ _ hne)).trans (Below.heap_setCell _ _ _ _ hne)
structure Gf.Off (f:Gf) (B:Nat):Prop where
 o1:f.t1≤B∨B<f.b1
 o2:f.t2≤B∨B<f.b2
 o3:f.t3≤B∨B<f.b3
 o4:f.t4≤B∨B<f.b4
 o5:f.t5≤B∨B<f.b5
 o6:f.t6≤B∨B<f.b6
 o7:f.t7≤B∨B<f.b7
section
variable {lo hi B b t c:Nat} {w w':World} {a:Option Addr} {x:Ga} {f:Gf} {g:Gt}
theorem Gf.Off.of_in (i:f.In lo hi) (h:hi≤B):f.Off B:=by
 obtain ⟨l1,h1,l2,h2,l3,h3,l4,h4,l5,h5,l6,h6,l7,h7⟩:=i
 constructor<;>left<;>omega
theorem Gf.Off.rep3 (o:f.Off B) (h:B<b):({ f with b3:=b,t3:=t }:Gf).Off B:=⟨o.1,o.2,.inr h,o.4,o.5,o.6,o.7⟩
theorem Gf.Off.rep5 (o:f.Off B) (h:B<b):({ f with b5:=b,t5:=t }:Gf).Off B:=⟨o.1,o.2,o.3,o.4,.inr h,o.6,o.7⟩
theorem Gf.Off.rep7 (o:f.Off B) (h:B<b):({ f with b7:=b,t7:=t }:Gf).Off B:=⟨o.1,o.2,o.3,o.4,o.5,o.6,.inr h⟩
theorem GtW.off (h:GtW w x f g) (o:f.Off B) (i:f.In lo t) (ht:t≤w.heap.size) (hs:w.heap.size≤w'.heap.size) (hk:∀ k,k≠B→k<w.heap.size→w'.heap[k]? = w.heap[k]?):GtW w' x f g:=by
 obtain ⟨g1,g2,g3,g4,g5,g6,g7⟩:=h
 obtain ⟨l1,h1,l2,h2,l3,h3,l4,h4,l5,h5,l6,h6,l7,h7⟩:=i
 obtain ⟨o1,o2,o3,o4,o5,o6,o7⟩:=o
 exact ⟨g1.keep hs fun k k1 k2=>hk k (by omega) (by omega),g2.keep hs fun k k1 k2=>hk k (by omega) (by omega),g3.keep hs fun k k1 k2=>hk k (by omega) (by omega),g4.keep hs fun k k1 k2=>hk k (by omega) (by omega),g5.keep hs fun k k1 k2=>hk k (by omega) (by omega),g6.keep hs fun k k1 k2=>hk k (by omega) (by omega),g7.keep hs fun k k1 k2=>hk k (by omega) (by omega)⟩
theorem GtW.off2 (h:GtW w x f g) (o:f.Off B) (i:f.In lo t) (ht:t≤w.heap.size) (hs:w.heap.size≤w'.heap.size) (hk:∀ k,lo≤k→k≠B→k<w.heap.size→w'.heap[k]? = w.heap[k]?):GtW w' x f g:=by
 obtain ⟨g1,g2,g3,g4,g5,g6,g7⟩:=h
 obtain ⟨l1,h1,l2,h2,l3,h3,l4,h4,l5,h5,l6,h6,l7,h7⟩:=i
 obtain ⟨o1,o2,o3,o4,o5,o6,o7⟩:=o
 exact ⟨g1.keep hs fun k k1 k2=>hk k (by omega) (by omega) (by omega),g2.keep hs fun k k1 k2=>hk k (by omega) (by omega) (by omega),g3.keep hs fun k k1 k2=>hk k (by omega) (by omega) (by omega),g4.keep hs fun k k1 k2=>hk k (by omega) (by omega) (by omega),g5.keep hs fun k k1 k2=>hk k (by omega) (by omega) (by omega),g6.keep hs fun k k1 k2=>hk k (by omega) (by omega) (by omega),g7.keep hs fun k k1 k2=>hk k (by omega) (by omega) (by omega)⟩
theorem GtW.putSteer (h:GtW w x f g) (i:f.In lo t) (ht:t≤w.heap.size) (ap:f.Apart) {sk off:Nat} (ea:x.a6=some ⟨sk,off,none⟩) {k:Nat} (hk:k<g.steers.length) (r:Sr) :
 GtW (((w.setCell ⟨sk,off+k*3,none⟩ (.int .i64 r.target)).setCell ⟨sk,off+k*3+1,none⟩ (.int .i64 r.old)).setCell ⟨sk,off+k*3+2,none⟩ (.int .i64 r.prob)) x f { g with steers:=g.steers.set k r } ∧
 Span f.b6 f.t6 w (((w.setCell ⟨sk,off+k*3,none⟩ (.int .i64 r.target)).setCell ⟨sk,off+k*3+1,none⟩ (.int .i64 r.old)).setCell ⟨sk,off+k*3+2,none⟩ (.int .i64 r.prob)):=by
 have hs:=h.steers
 rw [ea] at hs
 have p:=SrsW.put hs hk r
 refine ⟨h.turn6 i ht ap p.2 ?_,p.2⟩
 rw [ea]
 exact p.1
theorem GtW.steerSpot (h:GtW w x f g) {k:Nat} (hk:k<g.steers.length):∃ sk off,x.a6=some ⟨sk,off,none⟩∧f.b6≤sk∧sk<f.t6∧(w.cell? ⟨sk,off+k*3,none⟩=some (.int .i64 (srAt g.steers k).target)∧w.cell? ⟨sk,off+k*3+1,none⟩=some (.int .i64 (srAt g.steers k).old)∧w.cell? ⟨sk,off+k*3+2,none⟩=some (.int .i64 (srAt g.steers k).prob))∧w.frozen? ⟨sk,off+k*3,none⟩=false∧w.frozen? ⟨sk,off+k*3+1,none⟩=false∧w.frozen? ⟨sk,off+k*3+2,none⟩=false:=by
 obtain ⟨h1,-⟩:=h.steers
 have hl:=srcells_length g.steers
 obtain ⟨sk,off,e,b1,b2,b3⟩:=SlIn.some h1 (srcells_ne (by omega))
 obtain ⟨e0,e1,e2⟩:=srcells_get g.steers k hk
 rw [e] at h1
 have c0:=SlIn.cells h1 (k*3) (by omega)
 have c1:=SlIn.cells h1 (k*3+1) (by omega)
 have c2:=SlIn.cells h1 (k*3+2) (by omega)
 rw [e0] at c0
 rw [e1] at c1
 rw [e2] at c2
 exact ⟨sk,off,e,b1,b2,⟨c0.1,c1.1,c2.1⟩,c0.2,c1.2,c2.2⟩
end
structure GoneW (lo B:Nat) (g:Gt) (w w':World):Prop where
 ex:∃ x f,Boxed w' B (g.cells x) 50∧GtW w' x f g∧f.In lo w'.heap.size∧f.Apart∧∀ j,B<j→j<w.heap.size→f.Off j
 bel:Below lo w w'
 hi:∀ j,B<j→j<w.heap.size→w'.heap[j]? = w.heap[j]?
def Gt.mix (g:Gt) (pt:List Nd) (fs:Fs) (rw:Rw) (a b c:Bool):Gt:={ g with tree:=bif a then pt else g.tree,fair:=bif b then fs else g.fair,rows:=bif c then rw else g.rows }
def Ga.mix (x:Ga) (p3:Option Addr) (c3:Nat) (p7:Option Addr) (c7:Nat) (p5:Option Addr) (c5:Nat) (a b c:Bool):Ga:={ x with a3:=bif a then p3 else x.a3,c3:=bif a then c3 else x.c3,a7:=bif b then p7 else x.a7,c7:=bif b then c7 else x.c7,a5:=bif c then p5 else x.a5,c5:=bif c then c5 else x.c5 }
abbrev gaveUp (k:Int):Value:=.iface 154 (.agg #[.int .i64 k])
theorem implMust (can:Bool) (k:Int) (w:World) :
 Calls Tryz.prog 107 #[.bool can,.int .i64 k] w fun e w'=>e=(if can=true then .returned (.tuple #[]) else .panicked [{ v:=gaveUp k,recovered:=false }])∧w'=w:=by
 cases can
 ·rw [if_neg (by decide)]
  go_enter Tryz.func107,Tryz.ntmps107
  go_wp2
  first|exact ⟨⟨rfl,rfl⟩,rfl⟩|exact ⟨rfl,rfl,rfl⟩|(trace_state;done)
 ·rw [if_pos rfl]
  go_enter Tryz.func107,Tryz.ntmps107
  go_wp2
  go_end0
  exact ⟨rfl,rfl⟩
theorem caughtNone (p:Addr) (w:World) :
 CallsD Tryz.prog 102 #[.pointer (some p)] .returning w fun e u' w'=>e = .returned (.tuple #[])∧u' = .returning∧w'=w:=by
 refine callsD_of_wpS Tryz.func102 rfl fun c₀ cs hu=>?_
 apply wpS_seq
 apply wpS_region
 simp [wpOpsS,go_sem,recoverD,hu,Tryz.ntmps102,Exit.thenS]
 apply wpS_seq
 apply wpS_region
 simp [wpOpsS,go_sem,Exit.thenS]
 refine wpS_cond (t:=false) (by simp [Act.eval,Array.replicate]) ?_
 rw [if_neg (by decide)]
 refine wpS_of_wp (wp_skip ?_)
 cases c₀
 simp_all [bodyPostS,results,Tryz.results102]
theorem asGivenUp (v:Value) (w:World):(Instr.typeAssert (.iface 154 v) 20 154 false).run Tryz.prog w = .ok v w:=by kernel_rfl
theorem fieldGivenUp (k:Int) (w:World):(Instr.field 154 (.agg #[.int .i64 k]) 0).run Tryz.prog w = .ok (.int .i64 k) w:=by kernel_rfl
theorem caughtGivenUp (p:Addr) (k y:Int) (w:World) (hc:w.cell? p=some (.int .i64 y)) (hf:w.frozen? p=false) :
 CallsD Tryz.prog 102 #[.pointer (some p)] (.panicking [{ v:=gaveUp k,recovered:=false }]) w fun e u' w'=>e = .returned (.tuple #[])∧u' = .panicking [{ v:=gaveUp k,recovered:=true }]∧w'=w.setCell p (.int .i64 k):=by
 have hta:=fun w=>asGivenUp (.agg #[.int .i64 k]) w
 have hfd:=fun w=>fieldGivenUp k w
 refine callsD_of_wpS Tryz.func102 rfl fun c₀ cs hu=>?_
 apply wpS_seq
 apply wpS_region
 simp [wpOpsS,go_sem,recoverD,hu,Tryz.ntmps102,Exit.thenS]
 apply wpS_seq
 apply wpS_region
 simp [wpOpsS,go_sem,Exit.thenS]
 refine wpS_cond (t:=true) (by simp [Act.eval,Array.replicate]) ?_
 simp only [if_true]
 apply wpS_region
 simp [wpOpsS,go_sem,hta,hfd,hc,hf]
 cases c₀
 simp_all [bodyPostS,results,Tryz.results102]
theorem implOrGivenUp (F:FuncId) (cap:Array Value) (w:World) (P:Int→World→Prop) (hF:∀ w',(callFunc F cap).run Tryz.prog w' = .ok (.enter F cap) w')
 (h:Calls Tryz.prog F cap (w.alloc (.cells #[.int .i64 0] 2)) fun e w'=>∃ a,(e = .returned (.int .i64 a)∨e = .panicked [{ v:=gaveUp a,recovered:=false }])∧P a w'∧w'.cell? ⟨w.heap.size,0,none⟩=some (.int .i64 0)∧w'.frozen? ⟨w.heap.size,0,none⟩=false) :
 Calls Tryz.prog 35 #[.func (.func F) #[] cap] w fun e w'=>∃ a w1,e = .returned (.int .i64 a)∧P a w1∧w'=w1.setCell ⟨w.heap.size,0,none⟩ (.int .i64 a):=by
 have hmf:∀ (fn:Fn) (first cap:Array Value) (w:World),(Instr.makeFunc fn first cap).run Tryz.prog w = .ok (.func fn first cap) w:=fun _ _ _ _=>rfl
 have H:Hid _:=h
 clear h
 go_enter_defers Tryz.func35,Tryz.ntmps35
 go_wp2_with fail
 refine Calls.mono H.out ?_
 rintro e w1 ⟨a,he,hp,hc,hf⟩
 rcases he with rfl|rfl
 ·go_wp2
  refine leaves_cons (f:=102) (args:=#[.pointer (some ⟨w.heap.size,0,none⟩)]) (by simp) (by simp [go_sem]) ?_
  refine (caughtNone ⟨w.heap.size,0,none⟩ _).mono ?_
  rintro e u' w'' ⟨rfl,rfl,rfl⟩
  have hcell:(w1.setCell ⟨w.heap.size,0,none⟩ (.int .i64 a)).cell? ⟨w.heap.size,0,none⟩=some (.int .i64 a):=World.cell?_setCell_same _ _ _ hc
  simp [Leaves,settle,results,Tryz.results35,go_sem,hcell]
  exact ⟨w1,hp,rfl⟩
 ·go_wp2
  refine leaves_cons (f:=102) (args:=#[.pointer (some ⟨w.heap.size,0,none⟩)]) (by simp) (by simp [go_sem]) ?_
  refine (caughtGivenUp ⟨w.heap.size,0,none⟩ a 0 _ hc hf).mono ?_
  rintro e u' w'' ⟨rfl,rfl,rfl⟩
  have hcell:(w1.setCell ⟨w.heap.size,0,none⟩ (.int .i64 a)).cell? ⟨w.heap.size,0,none⟩=some (.int .i64 a):=World.cell?_setCell_same _ _ _ hc
  simp [Leaves,settle,results,Tryz.results35,go_sem,hcell]
  exact ⟨w1,hp,rfl⟩
theorem Sr.stirred_ok {p:Sr} {d:Int} (h:p.ok=true) (hd:inB 0 100000 d=true):p.stirred d=p.stir d:=by
 unfold Sr.stirred
 rw [if_pos h,if_pos hd]
theorem implGoOutQ (lo:Nat) (g:Gt) (xg:Ga) (f:Gf) (B k:Nat) (w:World) (Q:Ending→World→Prop) (hB:g.big≤1048576) (hok:g.ok=true) (hk:k<g.leaves.length) (hw:g.fair.waits k=true) (hm:g.may k=true) (hD:Hid (Dv w)) (hdl:2<lo) (hb:Hid (Boxed w B (g.cells xg) 50)) (hG:Hid (GtW w xg f g∧f.In lo B∧f.Apart∧lo≤B))
 (h1:Hid (g.fair.endOf k≤1125899906842624→∀ w',GoneW lo B (g.go k) w w'→Q (.returned (.agg #[.int .i64 (itAt (izAt g.rows.lists k) 0).id,.int .i64 (itAt (izAt g.rows.lists k) 0).size,.int .i64 (itAt (izAt g.rows.lists k) 0).tm])) w'))
 (h2:Hid (¬ g.fair.endOf k≤1125899906842624→∀ w',GoneW lo B g w w'→Q (.panicked [{ v:=gaveUp (-1),recovered:=false }]) w')) :
 Calls Tryz.prog 38 #[.pointer (some ⟨B,0,none⟩),.int .i64 (k:Int)] w Q:=by
 obtain ⟨s1,s2,s3,s4,s5,s6,s7⟩:=Gt.small hB
 obtain ⟨k1,k2,k3,k4,k5,k6,k7,k8,k9,k10,k11,k12⟩:=Gt.head_iff.1 (Gt.ok_iff.1 hok).1
 have hkf:k<g.fair.flows.length:=by omega
 have hkr:k<g.rows.lists.length:=by omega
 have hks:k<g.steers.length:=by omega
 have hwt:0<(fwAt g.fair.flows k).sizes.length:=of_decide_eq_true hw
 have hlf:=Gt.leaf_iff.1 ((Gt.ok_iff.1 hok).2 k hk)
 obtain ⟨sz,hsz⟩:∃ z,szAt (fwAt g.fair.flows k).sizes 0=z:=⟨_,rfl⟩
 obtain ⟨lf,hlfe⟩:∃ z,g.leaves[k]?.getD 0=z:=⟨_,rfl⟩
 have hcan:can g.tree lf sz=true:=by rw [← hsz,← hlfe];exact hm
 obtain ⟨pt,hpt⟩:∃ z,payP g.tree sz (path g.tree lf)=z:=⟨_,rfl⟩
 have hpl:pt.length=g.tree.length:=by rw [← hpt];exact payP_len _ _ _
 have hpaid:paid g.tree lf sz=pt:=by unfold paid;rw [if_pos k4,if_pos hcan,hpt]
 have A1:Hid (∀ W,GtV W xg g→Calls Tryz.prog 106 #[.agg (g.cells xg),.int .i64 (k:Int)] W fun e w'=>e = .returned (.int .i64 sz)∧Below W.heap.size W w'):=fun W h=>by rw [← hsz];exact implFirstSize g xg k W hkf hwt h.fair.spot
 have A2:Hid (∀ W,GtV W xg g→Calls Tryz.prog 108 #[.slice xg.a3 g.tree.length xg.c3,.int .i64 lf,.int .i64 sz] W fun e w'=>(∃ p c,e = .returned (.tuple #[.slice p g.tree.length c,.bool true])∧NdRow W.heap.size w' (.slice p g.tree.length c) pt)∧Below W.heap.size W w'):=fun W h=>by
  obtain ⟨a,c,e,h1,h2,h3⟩:=h.tree
  cases e
  refine (implPaid _ _ g.tree lf sz W s3 h2 h3 h1).mono ?_
  rw [hcan,hpaid]
  rintro e w' ⟨⟨v,rfl,r⟩,q⟩
  obtain ⟨p,c,rfl⟩:=r.shape
  rw [hpl] at r ⊢
  exact ⟨⟨p,c,rfl,r⟩,q⟩
 obtain ⟨fl,hfl⟩:∃ z,decide (g.fair.endOf k≤1125899906842624)=z:=⟨_,rfl⟩
 obtain ⟨fs,hfs⟩:∃ z,(if fl=true then g.fair.serve k else g.fair)=z:=⟨_,rfl⟩
 have hfsl:fs.flows.length=g.fair.flows.length:=by
  rw [← hfs]
  split
  ·show (g.fair.flows.set k _).length=_
   rw [List.length_set]
  ·rfl
 have A3:Hid (∀ W,GtV W xg g→Calls Tryz.prog 109 #[.agg #[.int .i64 g.fair.now,.slice xg.a7 g.fair.flows.length xg.c7],.int .i64 (k:Int)] W fun e w'=>(∃ p c,e = .returned (.tuple #[.agg #[.int .i64 fs.now,.slice p g.fair.flows.length c],.bool fl])∧FsIn W.heap.size w'.heap.size w' (fs.val p c) fs)∧Below W.heap.size W w'):=fun W h=>by
  refine (implServedOf g.fair xg.a7 xg.c7 k W s7 k9 hkf hw h.fair.spot).mono ?_
  rw [hfl]
  have e1:(if g.fair.endOf k≤1125899906842624 then g.fair.serve k else g.fair)=fs:=by
   rw [← hfs,← hfl]
   simp only [decide_eq_true_eq]
  rw [e1]
  rintro e w' ⟨⟨v,rfl,r⟩,q⟩
  have r0:=r
  obtain ⟨p,c,e2,-⟩:=r
  subst e2
  refine ⟨⟨p,c,?_,r0⟩,q⟩
  unfold Fs.val
  rw [hfsl]
 have hpop:g.rows.ok=true∧g.rows.mayPop (k:Int)=true:=⟨k6,by
  unfold Rw.mayPop
  have h9:=hlf.2.2.2.1
  rw [decide_eq_true (show (0:Int)≤(k:Int) by omega),decide_eq_true (show (k:Int)<(g.rows.lists.length:Int) by omega),Int.toNat_natCast,decide_eq_false (by omega)]
  rfl⟩
 obtain ⟨rw',hrw'⟩:∃ z:Rw,(⟨g.rows.most,g.rows.lists.set k ((izAt g.rows.lists k).drop 1)⟩:Rw)=z:=⟨_,rfl⟩
 have hrwl:rw'.lists.length=g.rows.lists.length∧rw'.most=g.rows.most:=by rw [← hrw'];exact ⟨List.length_set,rfl⟩
 obtain ⟨it,hit⟩:∃ z,itAt (izAt g.rows.lists k) 0=z:=⟨_,rfl⟩
 have A4:Hid (∀ W,GtV W xg g→Calls Tryz.prog 110 #[.agg #[.int .i64 g.rows.most,.slice xg.a5 g.rows.lists.length xg.c5],.int .i64 (k:Int)] W fun e w'=>(∃ p c,e = .returned (.tuple #[.agg #[.int .i64 g.rows.most,.slice p g.rows.lists.length c],.agg (ic it.id it.size it.tm),.bool true])∧RwIn W.heap.size w'.heap.size w' (rw'.val p c) rw')∧Below W.heap.size W w'):=fun W h=>by
  refine (implPopped g.rows _ (k:Int) W s5 h.rows).mono ?_
  have e1:g.rows.popped (k:Int)=rw':=by unfold Rw.popped;rw [if_pos hpop.1,if_pos hpop.2];exact hrw'
  have e2:g.rows.poppedI (k:Int)=it:=by unfold Rw.poppedI;rw [hpop.1,hpop.2];exact hit
  have e3:g.rows.poppedB (k:Int)=true:=by unfold Rw.poppedB;rw [hpop.1,hpop.2];rfl
  rw [e1,e2,e3]
  rintro e w' ⟨⟨v,rfl,r⟩,q⟩
  have r0:=r
  obtain ⟨p,c,e2,-⟩:=r
  subst e2
  refine ⟨⟨p,c,?_,r0⟩,q⟩
  unfold Rw.val
  rw [hrwl.1,hrwl.2]
  rfl
 have nums:=out_nums hok hkr (by have:=hlf.2.2.2.1;omega)
 rw [hit] at nums
 have htm:(ndAt pt 0).pz.tm=(ndAt g.tree 0).pz.tm:=by rw [← hpt];exact payP_tm _ _ _ _
 obtain ⟨tm,hte⟩:∃ z,(ndAt g.tree 0).pz.tm=z:=⟨_,rfl⟩
 rw [hte] at nums htm
 obtain ⟨d,hd⟩:∃ z,max 0 (min 100000 (tm-it.tm))=z:=⟨_,rfl⟩
 obtain ⟨st,hst⟩:∃ z,srAt g.steers k=z:=⟨_,rfl⟩
 obtain ⟨sq,hsq⟩:∃ z,st.stir d=z:=⟨_,rfl⟩
 have hsok:st.ok=true:=by rw [← hst];exact hlf.2.2.1
 have hdi:inB 0 100000 d=true:=by rw [inB_true];omega
 have A5:Hid (∀ W x5 (g5:Gt),g5.tree=pt→NdsAt W x5.a3 g5.tree→Calls Tryz.prog 113 #[g5.val x5] W fun e w'=>e = .returned (.int .i64 tm)∧Below W.heap.size W w'):=fun W x5 g5 e h=>by
  have q:=implTimeOf g5 x5 W (by rw [e,hpl];have:=(tok_iff.1 k4).1;omega) (by rw [e,hpl];exact s3) h
  rw [e,htm] at q
  exact q
 have A6:Hid (∀ W,Calls Tryz.prog 112 #[.agg (ic it.id it.size it.tm),.int .i64 tm] W fun e w'=>e = .returned (.int .i64 d)∧Below W.heap.size W w'):=fun W=>by
  rw [← hd]
  exact implStayOf it tm W nums.1 nums.2
 have A7:Hid (∀ W,Dv W→Calls Tryz.prog 111 #[st.val,.int .i64 d] W fun e w'=>e = .returned sq.val∧Below W.heap.size W w'):=fun W hv=>by
  have q:=implStirred st d W hv
  rw [Sr.stirred_ok hsok hdi,hsq] at q
  exact q
 have Fin:Hid (fl=true→({ g with fair:=fs,tree:=pt,rows:=rw',steers:=g.steers.set k sq }:Gt)=g.go k):=fun e=>by
  rw [← hsq,← hst,← hfs,if_pos e,← hrw']
  exact go_is hsz (by rw [hlfe];exact hpt) rfl hit (by rw [hte];exact hd.symm)
 have H1:Hid (fl=true→∀ w',GoneW lo B (g.go k) w w'→Q (.returned (.agg (ic it.id it.size it.tm))) w'):=fun e w' h=>by rw [← hit];exact h1.out (of_decide_eq_true (hfl.trans e)) w' h
 have H2:Hid (fl=false→∀ w',GoneW lo B g w w'→Q (.panicked [{ v:=gaveUp (-1),recovered:=false }]) w'):=fun e w' h=>h2.out (of_decide_eq_false (hfl.trans e)) w' h
 have Hk:Hid (k<g.leaves.length∧k<g.fair.flows.length∧k<g.rows.lists.length∧k<g.steers.length∧pt.length=g.tree.length∧fs.flows.length=g.fair.flows.length∧rw'.lists.length=g.rows.lists.length∧rw'.most=g.rows.most):=⟨hk,hkf,hkr,hks,hpl,hfsl,hrwl⟩
 have Hlf:Hid (g.leaves[k]?.getD 0=lf∧srAt g.steers k=st):=⟨hlfe,hst⟩
 have Hdv:Hid (∀ W,Below lo w W→Dv W):=fun W q=>hD.out.below hdl q
 clear h1 h2 hd hst hsq hsok hdi hte nums htm hit hrw' hpop hfs hfl hpaid hcan hpt hlfe hsz hlf hwt hks hkr hkf k1 k2 k3 k4 k5 k6 k7 k8 k9 k10 k11 k12 s1 s2 s3 s4 s5 s6 s7 hm hw hok hB hD hdl hpl hfsl hrwl
 obtain ⟨A,hA⟩:∃ A,A=w.heap.size:=⟨_,rfl⟩
 obtain ⟨W0,hW⟩:∃ W,W=w.alloc (.cells zi 52):=⟨_,rfl⟩
 have X0:Hid (Boxed W0 A zi 52∧Below w.heap.size w W0∧B<A∧A<W0.heap.size):=by
  rw [hW,hA]
  exact ⟨Boxed.new _ _ _,(Below.refl _ _).alloc nlr _,hb.out.under,by simp⟩
 have HBA:Hid (B<A):=X0.out.2.2.1
 have XG:Hid (∀ z,Below w.heap.size w z→Boxed z B (g.cells xg) 50∧GtW z xg f g):=fun z q=>⟨hb.out.below hb.out.under q,hG.out.1.below q⟩
 have HW:Hid (W0=_):=hW
 have HA:Hid (A=w.heap.size):=hA
 clear hW hA hb
 go_enter Tryz.func38,Tryz.ntmps38
 go_upto_region 1 with fail
 rw [← HW.out,← HA.out]
 clear HW
 obtain ⟨b4,o4,ea4,-,-⟩:=((XG.out w (Below.refl _ _)).2.at.leaves.spot') k hk
 have Ea4:Hid (xg.a4=some ⟨b4,o4,none⟩):=ea4
 have RY:Hid (∀ z,Below W0.heap.size W0 z→z.cell? ⟨B,5,none⟩=some (.slice xg.a3 g.tree.length xg.c3)∧z.cell? ⟨B,6,none⟩=some (.slice (some ⟨b4,o4,none⟩) g.leaves.length xg.c4)∧z.cell? ⟨b4,o4+k,none⟩=some (.int .i64 lf)∧Boxed z B (g.cells xg) 50∧GtV z xg g):=fun z q=>by
  obtain ⟨h3,h4⟩:=XG.out z (X0.out.2.1.trans (q.mono X0.out.2.1.size))
  obtain ⟨b4',o4',e4,-,l4⟩:=h4.at.leaves.spot' k Hk.out.1
  rw [Ea4.out] at e4
  cases e4
  rw [Hlf.out.1] at l4
  refine ⟨h3.cell 5 rfl,?_,l4,h3,h4.at⟩
  rw [← Ea4.out]
  exact h3.cell 6 rfl
 have hkl:(k:Int)<(g.leaves.length:Int):=by omega
 clear hk ea4
 refine region_lists (G:=Option Addr×Nat) (by kernel_rfl) (by kernel_rfl) (by kernel_rfl) (fun i=>99) (fun (_:Nat→Bool) (_:Option Addr×Nat) (z:World)=>Below W0.heap.size W0 z) (fun i (y:Option Addr×Nat) z (y':Option Addr×Nat) z'=>(i≠16→y'=y)∧Below z.heap.size z z') (fun i y x u=>([fun _ _ u=>u = .pointer (some ⟨B,0,none⟩),fun _ _ u=>u = .pointer (some ⟨B,0,none⟩),fun _ _ u=>u = .pointer (some ⟨B,5,none⟩),fun _ _ u=>u = .slice xg.a3 g.tree.length xg.c3,fun _ _ u=>u = .pointer (some ⟨B,0,none⟩),fun _ _ u=>u = .pointer (some ⟨B,0,none⟩),fun _ _ u=>u = .pointer (some ⟨B,6,none⟩),fun _ _ u=>u = .slice (some ⟨b4,o4,none⟩) g.leaves.length xg.c4,fun _ _ u=>u = .int .i64 k,fun _ _ u=>u = .pointer (some ⟨b4,o4+k,none⟩),fun _ _ u=>u = .int .i64 lf,fun _ _ u=>u = .pointer (some ⟨B,0,none⟩),fun _ _ u=>u = .pointer (some ⟨B,0,none⟩),fun _ _ u=>u = .agg (g.cells xg),fun _ _ u=>u = .int .i64 k,fun _ _ u=>u = .int .i64 sz,fun y x u=>u = .tuple #[.slice y.1 g.tree.length y.2,.bool true]∧NdRow W0.heap.size x (.slice y.1 g.tree.length y.2) pt,fun y _ u=>u = .tuple #[.slice y.1 g.tree.length y.2,.bool true],fun y _ u=>u = .slice y.1 g.tree.length y.2,fun y _ u=>u = .bool true,fun y _ u=>u = .slice y.1 g.tree.length y.2,fun y _ u=>u = .bool true]:List (Option Addr×Nat→World→Value→Prop)).getD i (fun _ _ _=>True) y x u) ?hR (none,0) ?h0 ?step ?last
 case hR =>
  intro i j y y' x x' u hi hj hne hu h1 h2 hp hr
  have hi':i<22:=hi
  have hj':j<22:=hj
  have hcases:j=0∨j=1∨j=2∨j=3∨j=4∨j=5∨j=6∨j=7∨j=8∨j=9∨j=10∨j=11∨j=12∨j=13∨j=14∨j=15∨j=16∨j=17∨j=18∨j=19∨j=20∨j=21:=by omega
  rcases hcases with rfl|rfl|rfl|rfl|rfl|rfl|rfl|rfl|rfl|rfl|rfl|rfl|rfl|rfl|rfl|rfl|rfl|rfl|rfl|rfl|rfl|rfl
  ·exact hp
  ·exact hp
  ·exact hp
  ·exact hp
  ·exact hp
  ·exact hp
  ·exact hp
  ·exact hp
  ·exact hp
  ·exact hp
  ·exact hp
  ·exact hp
  ·exact hp
  ·exact hp
  ·exact hp
  ·exact hp
  ·obtain ⟨e1,e2⟩:=hp
   have ey:y'=y:=hr.1 hne
   rw [ey]
   exact ⟨e1,e2.carry fun k _ hl=>hr.2.block k hl⟩
  ·have ey:y'=y:=hr.1 (by rintro rfl;exact absurd h1 (by decide +kernel))
   rw [ey]
   exact hp
  ·have ey:y'=y:=hr.1 (by rintro rfl;exact absurd h1 (by decide +kernel))
   rw [ey]
   exact hp
  ·have ey:y'=y:=hr.1 (by rintro rfl;exact absurd h1 (by decide +kernel))
   rw [ey]
   exact hp
  ·have ey:y'=y:=hr.1 (by rintro rfl;exact absurd h1 (by decide +kernel))
   rw [ey]
   exact hp
  ·have ey:y'=y:=hr.1 (by rintro rfl;exact absurd h1 (by decide +kernel))
   rw [ey]
   exact hp
 case h0=>exact (Below.refl _ _).drew
 case step =>
  intro i o hi ho L a' y x hLi hwt hre hkp hI hp
  have s0:a'.tmps[0]?.getD undef = .pointer (some ⟨B,0,none⟩):=tq (hkp.slot 0 (by kernel_rfl))
  have s1:a'.tmps[1]?.getD undef = .int .i64 k:=tq (hkp.slot 1 (by kernel_rfl))
  have hi':i<22:=hi
  have hcases:i=0∨i=1∨i=2∨i=3∨i=4∨i=5∨i=6∨i=7∨i=8∨i=9∨i=10∨i=11∨i=12∨i=13∨i=14∨i=15∨i=16∨i=17∨i=18∨i=19∨i=20∨i=21:=by omega
  rcases hcases with rfl|rfl|rfl|rfl|rfl|rfl|rfl|rfl|rfl|rfl|rfl|rfl|rfl|rfl|rfl|rfl|rfl|rfl|rfl|rfl|rfl|rfl
  ·cases ho
   exact rs_val rfl (fun h=>by cases h) (.pointer (some ⟨B,0,none⟩)) y (by simp [go_sem,s0]) ⟨fun _=>rfl,Below.refl _ _⟩ (hI) rfl
  ·cases ho
   have q0:a'.tmps[13]?.getD undef = .pointer (some ⟨B,0,none⟩):=tq (hp 0 (od (by kernel_rfl)) (.inr (by decide)))
   exact rs_val rfl (fun h=>by cases h) (.pointer (some ⟨B,0,none⟩)) y (by simp [go_sem,q0]) ⟨fun _=>rfl,Below.refl _ _⟩ (hI) rfl
  ·cases ho
   have q1:a'.tmps[14]?.getD undef = .pointer (some ⟨B,0,none⟩):=tq (hp 1 (od (by kernel_rfl)) (.inr (by decide)))
   exact rs_val rfl (fun h=>by cases h) (.pointer (some ⟨B,5,none⟩)) y (by simp [go_sem,q1]) ⟨fun _=>rfl,Below.refl _ _⟩ (hI) rfl
  ·cases ho
   obtain ⟨f5,f6,fl4,fbx,fgv⟩:=RY.out x hI
   have q2:a'.tmps[15]?.getD undef = .pointer (some ⟨B,5,none⟩):=tq (hp 2 (od (by kernel_rfl)) (.inr (by decide)))
   exact rs_val rfl (fun h=>by cases h) (.slice xg.a3 g.tree.length xg.c3) y (by simp [go_sem,q2,f5]) ⟨fun _=>rfl,Below.refl _ _⟩ (hI) rfl
  ·cases ho
   exact rs_val rfl (fun h=>by cases h) (.pointer (some ⟨B,0,none⟩)) y (by simp [go_sem,s0]) ⟨fun _=>rfl,Below.refl _ _⟩ (hI) rfl
  ·cases ho
   have q4:a'.tmps[17]?.getD undef = .pointer (some ⟨B,0,none⟩):=tq (hp 4 (od (by kernel_rfl)) (.inr (by decide)))
   exact rs_val rfl (fun h=>by cases h) (.pointer (some ⟨B,0,none⟩)) y (by simp [go_sem,q4]) ⟨fun _=>rfl,Below.refl _ _⟩ (hI) rfl
  ·cases ho
   have q5:a'.tmps[18]?.getD undef = .pointer (some ⟨B,0,none⟩):=tq (hp 5 (od (by kernel_rfl)) (.inr (by decide)))
   exact rs_val rfl (fun h=>by cases h) (.pointer (some ⟨B,6,none⟩)) y (by simp [go_sem,q5]) ⟨fun _=>rfl,Below.refl _ _⟩ (hI) rfl
  ·cases ho
   obtain ⟨f5,f6,fl4,fbx,fgv⟩:=RY.out x hI
   have q6:a'.tmps[19]?.getD undef = .pointer (some ⟨B,6,none⟩):=tq (hp 6 (od (by kernel_rfl)) (.inr (by decide)))
   exact rs_val rfl (fun h=>by cases h) (.slice (some ⟨b4,o4,none⟩) g.leaves.length xg.c4) y (by simp [go_sem,q6,f6]) ⟨fun _=>rfl,Below.refl _ _⟩ (hI) rfl
  ·cases ho
   exact rs_val rfl (fun h=>by cases h) (.int .i64 k) y (by simp [go_sem,s1]) ⟨fun _=>rfl,Below.refl _ _⟩ (hI) rfl
  ·cases ho
   have q7:a'.tmps[20]?.getD undef = .slice (some ⟨b4,o4,none⟩) g.leaves.length xg.c4:=tq (hp 7 (od (by kernel_rfl)) (.inr (by decide)))
   have q8:a'.tmps[21]?.getD undef = .int .i64 k:=tq (hp 8 (od (by kernel_rfl)) (.inr (by decide)))
   exact rs_val rfl (fun h=>by cases h) (.pointer (some ⟨b4,o4+k,none⟩)) y (by simp [go_sem,q7,q8,hkl]) ⟨fun _=>rfl,Below.refl _ _⟩ (hI) rfl
  ·cases ho
   obtain ⟨f5,f6,fl4,fbx,fgv⟩:=RY.out x hI
   have q9:a'.tmps[22]?.getD undef = .pointer (some ⟨b4,o4+k,none⟩):=tq (hp 9 (od (by kernel_rfl)) (.inr (by decide)))
   exact rs_val rfl (fun h=>by cases h) (.int .i64 lf) y (by simp [go_sem,q9,fl4]) ⟨fun _=>rfl,Below.refl _ _⟩ (hI) rfl
  ·cases ho
   exact rs_val rfl (fun h=>by cases h) (.pointer (some ⟨B,0,none⟩)) y (by simp [go_sem,s0]) ⟨fun _=>rfl,Below.refl _ _⟩ (hI) rfl
  ·cases ho
   have q11:a'.tmps[24]?.getD undef = .pointer (some ⟨B,0,none⟩):=tq (hp 11 (od (by kernel_rfl)) (.inr (by decide)))
   exact rs_val rfl (fun h=>by cases h) (.pointer (some ⟨B,0,none⟩)) y (by simp [go_sem,q11]) ⟨fun _=>rfl,Below.refl _ _⟩ (hI) rfl
  ·cases ho
   obtain ⟨f5,f6,fl4,fbx,fgv⟩:=RY.out x hI
   have q12:a'.tmps[25]?.getD undef = .pointer (some ⟨B,0,none⟩):=tq (hp 12 (od (by kernel_rfl)) (.inr (by decide)))
   exact ⟨wno rfl,wp_load_row 50 (.tmp 25) rfl B (by simpa [Act.eval] using q12) _ _ _ _ fbx Tryz.underlying50 rfl (by rw [Gt.cells_size];kernel_rfl) ⟨_,y,rfl,⟨fun _=>rfl,Below.refl _ _⟩,hI,fun u hu=>hu (fun h=>by cases h)⟩⟩
  ·cases ho
   exact rs_val rfl (fun h=>by cases h) (.int .i64 k) y (by simp [go_sem,s1]) ⟨fun _=>rfl,Below.refl _ _⟩ (hI) rfl
  ·cases ho
   obtain ⟨f5,f6,fl4,fbx,fgv⟩:=RY.out x hI
   have q13:a'.tmps[26]?.getD undef = .agg (g.cells xg):=tq (hp 13 (od (by kernel_rfl)) (.inr (by decide)))
   have q14:a'.tmps[27]?.getD undef = .int .i64 k:=tq (hp 14 (od (by kernel_rfl)) (.inr (by decide)))
   refine ⟨wno rfl,op_callR (f:=106) (args:=#[.agg (g.cells xg),.int .i64 (k:Int)]) (by simp [execOp,resolve,Deferred.ofValue,invoke,Act.eval,q13,q14]) (A1.out x fgv) ?_⟩
   rintro e x1 ⟨rfl,q⟩
   exact ⟨_,rfl,_,y,rfl,⟨fun _=>rfl,q⟩,hI.trans (q.mono hI.size),fun u hu=>hu (fun h=>by cases h)⟩
  ·cases ho
   obtain ⟨f5,f6,fl4,fbx,fgv⟩:=RY.out x hI
   have q3:a'.tmps[16]?.getD undef = .slice xg.a3 g.tree.length xg.c3:=tq (hp 3 (od (by kernel_rfl)) (.inr (by decide)))
   have q10:a'.tmps[23]?.getD undef = .int .i64 lf:=tq (hp 10 (od (by kernel_rfl)) (.inr (by decide)))
   have q15:a'.tmps[28]?.getD undef = .int .i64 sz:=tq (hp 15 (od (by kernel_rfl)) (.inr (by decide)))
   refine ⟨wno rfl,op_callR (f:=108) (args:=#[.slice xg.a3 g.tree.length xg.c3,.int .i64 lf,.int .i64 sz]) (by simp [execOp,resolve,Deferred.ofValue,invoke,Act.eval,q3,q10,q15]) (A2.out x fgv) ?_⟩
   rintro e x1 ⟨⟨p,c,rfl,hr2⟩,q⟩
   exact ⟨_,rfl,_,(p,c),rfl,⟨fun h=>absurd rfl h,q⟩,hI.trans (q.mono hI.size),fun u hu=>⟨hu (fun h=>by cases h),hr2.mono hI.size⟩⟩
  ·cases ho
   have e16:a'.tmps.getD 29 undef = .tuple #[.slice y.1 g.tree.length y.2,.bool true]:=(hp 16 (od (by kernel_rfl)) (.inr (by decide))).1
   exact ⟨wno rfl,op_moveY 29 rfl ⟨_,y,rfl,⟨fun _=>rfl,Below.refl _ _⟩,hI,fun u hu=>(hu (fun h=>by cases h)).trans e16⟩⟩
  ·cases ho
   have e17:a'.tmps.getD 12 undef = .tuple #[.slice y.1 g.tree.length y.2,.bool true]:=hp 17 (od (by kernel_rfl)) (.inr (by decide))
   have q17:a'.tmps[12]?.getD undef = .tuple #[.slice y.1 g.tree.length y.2,.bool true]:=by simpa using e17
   exact ⟨wno rfl,op_valY (v:=.slice y.1 g.tree.length y.2) (w':=x) (by simp [go_sem,q17]) ⟨_,y,rfl,⟨fun _=>rfl,Below.refl _ _⟩,hI,fun u hu=>hu (fun h=>by cases h)⟩⟩
  ·cases ho
   have e17:a'.tmps.getD 12 undef = .tuple #[.slice y.1 g.tree.length y.2,.bool true]:=hp 17 (od (by kernel_rfl)) (.inr (by decide))
   have q17:a'.tmps[12]?.getD undef = .tuple #[.slice y.1 g.tree.length y.2,.bool true]:=by simpa using e17
   exact ⟨wno rfl,op_valY (v:=.bool true) (w':=x) (by simp [go_sem,q17]) ⟨_,y,rfl,⟨fun _=>rfl,Below.refl _ _⟩,hI,fun u hu=>hu (fun h=>by cases h)⟩⟩
  ·cases ho
   have e1:a'.tmps.getD 30 undef = .slice y.1 g.tree.length y.2:=hp 18 (od (by kernel_rfl)) (.inr (by decide))
   exact ⟨wno rfl,op_assignZ 30 rfl ⟨_,y,rfl,⟨fun _=>rfl,Below.refl _ _⟩,hI,fun u hu=>(hu (fun h=>by cases h)).trans e1⟩⟩
  ·cases ho
   have e1:a'.tmps.getD 31 undef = .bool true:=hp 19 (od (by kernel_rfl)) (.inr (by decide))
   exact ⟨wno rfl,op_assignZ 31 rfl ⟨_,y,rfl,⟨fun _=>rfl,Below.refl _ _⟩,hI,fun u hu=>(hu (fun h=>by cases h)).trans e1⟩⟩
 case last =>
 intro L a' y x hall hkp hI hp
 obtain ⟨p3,c3⟩:=y
 have e20:a'.tmps.getD 5 undef = .slice p3 g.tree.length c3:=hp 20 (by decide) (by decide)
 have e21:a'.tmps.getD 6 undef = .bool true:=hp 21 (by decide) (by decide)
 have r16:NdRow W0.heap.size x (.slice p3 g.tree.length c3) pt:=(hp 16 (by decide) (by decide)).2
 have ha:=hkp.pick [true,true,true,true,true,false,false,true,true,true,true,true,false,false,false,false,false,false,false,false,false,false,false,false,false,false,false,false,false,false,false,false,true,true,true,true,true,true,true,true,true,true,true,true,true,true,true,true,true,true,true,true,true,true,true,true,true,true,true,true,true,true,true,true,true,true,true,true,true,true,true,true,true,true,true,true,true,true,true,true,true,true,true,true,true,true,true,true,true] (by kernel_rfl)
 simp only [pickS] at ha
 rw [e20,e21] at ha
 generalize a'.tmps.getD 12 undef=y12 at ha
 generalize a'.tmps.getD 13 undef=y13 at ha
 generalize a'.tmps.getD 14 undef=y14 at ha
 generalize a'.tmps.getD 15 undef=y15 at ha
 generalize a'.tmps.getD 16 undef=y16 at ha
 generalize a'.tmps.getD 17 undef=y17 at ha
 generalize a'.tmps.getD 18 undef=y18 at ha
 generalize a'.tmps.getD 19 undef=y19 at ha
 generalize a'.tmps.getD 20 undef=y20 at ha
 generalize a'.tmps.getD 21 undef=y21 at ha
 generalize a'.tmps.getD 22 undef=y22 at ha
 generalize a'.tmps.getD 23 undef=y23 at ha
 generalize a'.tmps.getD 24 undef=y24 at ha
 generalize a'.tmps.getD 25 undef=y25 at ha
 generalize a'.tmps.getD 26 undef=y26 at ha
 generalize a'.tmps.getD 27 undef=y27 at ha
 generalize a'.tmps.getD 28 undef=y28 at ha
 generalize a'.tmps.getD 29 undef=y29 at ha
 generalize a'.tmps.getD 30 undef=y30 at ha
 generalize a'.tmps.getD 31 undef=y31 at ha
 have bx:Below w.heap.size w x:=X0.out.2.1.trans (hI.mono X0.out.2.1.size)
 have ix:f.In lo W0.heap.size:=hG.out.2.1.wide nlr (by have:=X0.out.2.2;omega)
 have M1:Hid (GtW x { xg with a3:=p3,c3:=c3 } { f with b3:=W0.heap.size,t3:=x.heap.size } { g with tree:=pt }∧({ f with b3:=W0.heap.size,t3:=x.heap.size }:Gf).In lo x.heap.size∧({ f with b3:=W0.heap.size,t3:=x.heap.size }:Gf).Apart∧(∀ b,B≤b∧b≤A→({ f with b3:=W0.heap.size,t3:=x.heap.size }:Gf).Off b∧({ f with b3:=W0.heap.size,t3:=x.heap.size }:Gf).t6≤B)):=by
  have hr3:NdRow W0.heap.size x (.slice p3 pt.length c3) pt:=by rw [Hk.out.2.2.2.2.1];exact r16
  refine ⟨(XG.out x bx).2.rep3 (NdsW.of_row hr3),ix.rep3 nlr (by have:=hG.out.2.2.2;have:=X0.out.2.2;omega) hI.size,hG.out.2.2.1.rep3 ix nlr,fun b hb=>⟨Gf.Off.rep3 (Gf.Off.of_in hG.out.2.1 ?_) ?_,hG.out.2.1.h6⟩⟩
  ·exact hb.1
  ·have:=X0.out.2.2;omega
 have Z1:Hid (Boxed x A zi 52∧Below w.heap.size w x∧B<A∧A<x.heap.size):=⟨X0.out.1.below X0.out.1.under hI,bx,X0.out.2.2.1,Nat.lt_of_lt_of_le X0.out.2.2.2 hI.size⟩
 clear hp hkp hI hall RY r16 e20 e21 bx ix X0 hkl Ea4
 rw [ha]
 clear ha
 obtain ⟨w1,hw1⟩:∃ z,z=x:=⟨_,rfl⟩
 obtain ⟨f1,hf1⟩:∃ z:Gf,z={ f with b3:=W0.heap.size,t3:=x.heap.size }:=⟨_,rfl⟩
 rw [← hf1] at M1
 rw [← hw1] at M1 Z1 ⊢
 clear hw1 hf1 x
 have c10:w1.cell? ⟨B,10,none⟩=some (.int .i64 g.fair.now):=(XG.out w1 Z1.out.2.1).1.cell 10 rfl
 have c11:w1.cell? ⟨B,11,none⟩=some (.slice xg.a7 g.fair.flows.length xg.c7):=(XG.out w1 Z1.out.2.1).1.cell 11 rfl
 go_wp2_with fail
 refine (A3.out _ (XG.out w1 Z1.out.2.1).2.at).mono ?_
 rintro e w2 ⟨⟨p7,c7,rfl,r⟩,q⟩
 have M2:Hid (GtW w2 { { xg with a3:=p3,c3:=c3 } with a7:=p7,c7:=c7 } { f1 with b7:=w1.heap.size,t7:=w2.heap.size } { { g with tree:=pt } with fair:=fs }∧({ f1 with b7:=w1.heap.size,t7:=w2.heap.size }:Gf).In lo w2.heap.size∧({ f1 with b7:=w1.heap.size,t7:=w2.heap.size }:Gf).Apart∧(∀ b,B≤b∧b≤A→({ f1 with b7:=w1.heap.size,t7:=w2.heap.size }:Gf).Off b∧({ f1 with b7:=w1.heap.size,t7:=w2.heap.size }:Gf).t6≤B)) :=
  ⟨(M1.out.1.below q).rep7 r,M1.out.2.1.rep7 nlr (by have:=Z1.out.2.2;have:=hG.out.2.2.2;omega) q.size,M1.out.2.2.1.rep7 M1.out.2.1 nlr,fun b hb=>⟨(M1.out.2.2.2 b hb).1.rep7 (by have:=Z1.out.2.2;omega),(M1.out.2.2.2 b hb).2⟩⟩
 have Z2:Hid (Boxed w2 A zi 52∧Below w.heap.size w w2∧B<A∧A<w2.heap.size):=⟨Z1.out.1.below Z1.out.1.under q,Z1.out.2.1.trans (q.mono Z1.out.2.1.size),Z1.out.2.2.1,Nat.lt_of_lt_of_le Z1.out.2.2.2 q.size⟩
 clear q r c10 c11 M1 Z1 A3
 obtain ⟨f2,hf2⟩:∃ z:Gf,z={ f1 with b7:=w1.heap.size,t7:=w2.heap.size }:=⟨_,rfl⟩
 rw [← hf2] at M2
 clear hf2
 have N:Hid (Boxed (w2.alloc (.cells #[.int .i64 0,.slice none 0 0] 48)) w2.heap.size #[.int .i64 0,.slice none 0 0] 48):=Boxed.new _ _ _
 have bN:Hid (Below w2.heap.size w2 ((w2.alloc (.cells #[.int .i64 0,.slice none 0 0] 48)).setRow w2.heap.size #[.int .i64 fs.now,.slice p7 g.fair.flows.length c7])):=below_setRow ((Below.refl _ _).alloc nlr _) nlr _
 have hN:Hid (Boxed ((w2.alloc (.cells #[.int .i64 0,.slice none 0 0] 48)).setRow w2.heap.size #[.int .i64 fs.now,.slice p7 g.fair.flows.length c7]) w2.heap.size #[.int .i64 fs.now,.slice p7 g.fair.flows.length c7] 48):=setRow_heap _ _ _ _ _ _ N.out
 go_upto_region 3 with (refine wpList_store_row rfl 48 (.tmp 7) (.tmp 39) rfl w2.heap.size #[.int .i64 fs.now,.slice p7 g.fair.flows.length c7] rfl rfl _ _ N.out (by kernel_rfl) rfl (by simp [Value.oneCell']) ?_)
 try simp only [Act.put]
 have M3:Hid (GtW ((w2.alloc (.cells #[.int .i64 0,.slice none 0 0] 48)).setRow w2.heap.size #[.int .i64 fs.now,.slice p7 g.fair.flows.length c7]) { { xg with a3:=p3,c3:=c3 } with a7:=p7,c7:=c7 } f2 { { g with tree:=pt } with fair:=fs }∧f2.In lo w2.heap.size∧f2.Apart∧(∀ b,B≤b∧b≤A→f2.Off b∧f2.t6≤B)):=⟨M2.out.1.below bN.out,M2.out.2⟩
 have Z3:Hid (Boxed ((w2.alloc (.cells #[.int .i64 0,.slice none 0 0] 48)).setRow w2.heap.size #[.int .i64 fs.now,.slice p7 g.fair.flows.length c7]) A zi 52∧Below w.heap.size w ((w2.alloc (.cells #[.int .i64 0,.slice none 0 0] 48)).setRow w2.heap.size #[.int .i64 fs.now,.slice p7 g.fair.flows.length c7])∧B<A∧A<w2.heap.size∧w2.heap.size≤((w2.alloc (.cells #[.int .i64 0,.slice none 0 0] 48)).setRow w2.heap.size #[.int .i64 fs.now,.slice p7 g.fair.flows.length c7]).heap.size):=⟨Z2.out.1.below Z2.out.1.under bN.out,Z2.out.2.1.trans (bN.out.mono Z2.out.2.1.size),Z2.out.2.2.1,Z2.out.2.2.2,bN.out.size⟩
 clear N bN M2 Z2
 generalize (w2.alloc (.cells #[.int .i64 0,.slice none 0 0] 48)).setRow w2.heap.size #[.int .i64 fs.now,.slice p7 g.fair.flows.length c7]=w3 at hN M3 Z3 ⊢
 generalize w2.heap.size=F at hN M3 Z3 ⊢
 cases fl
 ·have C0:Hid (∀ w,Calls Tryz.prog 107 #[.bool false,.int .i64 (-1)] w fun e w'=>e = .panicked [{ v:=gaveUp (-1),recovered:=false }]∧w'=w):=fun w=>(implMust false (-1) w).mono fun e w' h=>⟨by rw [h.1,if_neg (by decide)],h.2⟩
  go_wp2_with fail
  refine (C0.out _).mono ?_
  rintro e wq ⟨rfl,hwq⟩
  have hwq2:=hwq.symm
  subst hwq2
  have R0:=H2.out (by simp) w3 ⟨⟨xg,f,(XG.out w3 Z3.out.2.1).1,(XG.out w3 Z3.out.2.1).2,hG.out.2.1.wide nlr (by have:=Z3.out.2.2;omega),hG.out.2.2.1,fun j h3 _=>Gf.Off.of_in hG.out.2.1 (Nat.le_of_lt h3)⟩,Z3.out.2.1.mono (by have:=hG.out.2.2.2;have:=HA.out;have:=Z3.out.2.2;omega),fun j _ hj=>Z3.out.2.1.block j hj⟩
  go_wp2
  first|exact ⟨rfl,R0⟩|(trace_state;done)
 have C1:Hid (∀ w,Calls Tryz.prog 107 #[.bool true,.int .i64 (-1)] w fun e w'=>e = .returned (.tuple #[])∧w'=w):=fun w=>(implMust true (-1) w).mono fun e w' h=>⟨by rw [h.1,if_pos rfl],h.2⟩
 go_wp2_with fail
 refine (C1.out _).mono ?_
 rintro e wq ⟨rfl,hwq⟩
 have hwq2:=hwq.symm
 subst hwq2
 clear C1 H2
 have fin:=Fin.out (by simp)
 have H1':Hid _:=H1.out (by simp)
 clear Fin H1
 have Fin':Hid _:=fin
 clear fin
 have c7c:w3.cell? ⟨B,7,none⟩=some (.int .i64 g.rows.most):=(XG.out w3 Z3.out.2.1).1.cell 7 rfl
 have c8c:w3.cell? ⟨B,8,none⟩=some (.slice xg.a5 g.rows.lists.length xg.c5):=(XG.out w3 Z3.out.2.1).1.cell 8 rfl
 go_wp2_with fail
 refine (A4.out _ (XG.out w3 Z3.out.2.1).2.at).mono ?_
 rintro e w4 ⟨⟨p5,c5,rfl,r⟩,q⟩
 have i3:f2.In lo w3.heap.size:=M3.out.2.1.wide nlr Z3.out.2.2.2.2
 have M4:Hid (GtW w4 { { { xg with a3:=p3,c3:=c3 } with a7:=p7,c7:=c7 } with a5:=p5,c5:=c5 } { f2 with b5:=w3.heap.size,t5:=w4.heap.size } { { { g with tree:=pt } with fair:=fs } with rows:=rw' }∧({ f2 with b5:=w3.heap.size,t5:=w4.heap.size }:Gf).In lo w4.heap.size∧({ f2 with b5:=w3.heap.size,t5:=w4.heap.size }:Gf).Apart∧(∀ b,B≤b∧b≤A→({ f2 with b5:=w3.heap.size,t5:=w4.heap.size }:Gf).Off b∧({ f2 with b5:=w3.heap.size,t5:=w4.heap.size }:Gf).t6≤B)) :=
  ⟨(M3.out.1.below q).rep5 r,i3.rep5 nlr (by have:=Z3.out.2.2;have:=hG.out.2.2.2;omega) q.size,M3.out.2.2.1.rep5 i3 nlr,fun b hb=>⟨(M3.out.2.2.2 b hb).1.rep5 (by have:=Z3.out.2.2;have:=hN.out.under;omega),(M3.out.2.2.2 b hb).2⟩⟩
 have Z4:Hid (Boxed w4 A zi 52∧Below w.heap.size w w4∧B<A∧A<F∧F<w4.heap.size∧Boxed w4 F #[.int .i64 fs.now,.slice p7 g.fair.flows.length c7] 48):=⟨Z3.out.1.below Z3.out.1.under q,Z3.out.2.1.trans (q.mono Z3.out.2.1.size),Z3.out.2.2.1,Z3.out.2.2.2.1,Nat.lt_of_lt_of_le hN.out.under q.size,hN.out.below hN.out.under q⟩
 clear q r c7c c8c M3 Z3 A4 i3 hN
 obtain ⟨f4,hf4⟩:∃ z:Gf,z={ f2 with b5:=w3.heap.size,t5:=w4.heap.size }:=⟨_,rfl⟩
 rw [← hf4] at M4
 clear hf4
 obtain ⟨i0,i1,i2⟩:=it
 simp only at A6 H1'
 obtain ⟨WA,hWA⟩:∃ z,z=(w4.alloc (.cells #[.int .i64 0,.slice none 0 0] 44)).alloc (.cells zi 52):=⟨_,rfl⟩
 have bA:Hid (Below w4.heap.size w4 WA):=by rw [hWA];exact ((Below.refl _ _).alloc nlr _).alloc (by simp) _
 have N1:Hid (Boxed WA w4.heap.size #[.int .i64 0,.slice none 0 0] 44∧Boxed WA (w4.heap.size+1) zi 52):=by
  rw [hWA]
  refine ⟨(Boxed.new w4 _ _).more _,?_⟩
  have:=Boxed.new (w4.alloc (.cells #[.int .i64 0,.slice none 0 0] 44)) zi 52
  simpa using this
 have HWA:Hid (WA=_):=hWA
 clear hWA
 have N2:Hid (Boxed (WA.setRow w4.heap.size #[.int .i64 g.rows.most,.slice p5 g.rows.lists.length c5]) (w4.heap.size+1) zi 52):=(setRow_other _ _ _ _ (by omega)).trans N1.out.2
 go_upto_region 5 with (first|(rw [← HWA.out];refine wpList_store_row rfl 44 (.tmp 9) (.tmp 53) rfl w4.heap.size #[.int .i64 g.rows.most,.slice p5 g.rows.lists.length c5] rfl rfl _ _ N1.out.1 (by kernel_rfl) rfl (by simp [Value.oneCell']) ?_)|(refine wpList_store_row rfl 52 (.tmp 10) (.tmp 54) rfl (w4.heap.size+1) (ic i0 i1 i2) rfl rfl _ _ N2.out (by kernel_rfl) rfl (by simp [Value.oneCell']) ?_))
 try simp only [Act.put]
 have b5:Below w4.heap.size w4 ((WA.setRow w4.heap.size #[.int .i64 g.rows.most,.slice p5 g.rows.lists.length c5]).setRow (w4.heap.size+1) (ic i0 i1 i2)):=below_setRow (below_setRow bA.out nlr _) (by omega) _
 have M5:Hid (GtW ((WA.setRow w4.heap.size #[.int .i64 g.rows.most,.slice p5 g.rows.lists.length c5]).setRow (w4.heap.size+1) (ic i0 i1 i2)) { { { xg with a3:=p3,c3:=c3 } with a7:=p7,c7:=c7 } with a5:=p5,c5:=c5 } f4 { { { g with tree:=pt } with fair:=fs } with rows:=rw' }∧f4.In lo w4.heap.size∧f4.Apart∧(∀ b,B≤b∧b≤A→f4.Off b∧f4.t6≤B)):=⟨M4.out.1.below b5,M4.out.2⟩
 have Z5:Hid (Boxed ((WA.setRow w4.heap.size #[.int .i64 g.rows.most,.slice p5 g.rows.lists.length c5]).setRow (w4.heap.size+1) (ic i0 i1 i2)) A zi 52∧Below w.heap.size w ((WA.setRow w4.heap.size #[.int .i64 g.rows.most,.slice p5 g.rows.lists.length c5]).setRow (w4.heap.size+1) (ic i0 i1 i2))∧B<A∧A<F∧F<w4.heap.size∧Boxed ((WA.setRow w4.heap.size #[.int .i64 g.rows.most,.slice p5 g.rows.lists.length c5]).setRow (w4.heap.size+1) (ic i0 i1 i2)) F #[.int .i64 fs.now,.slice p7 g.fair.flows.length c7] 48∧Boxed ((WA.setRow w4.heap.size #[.int .i64 g.rows.most,.slice p5 g.rows.lists.length c5]).setRow (w4.heap.size+1) (ic i0 i1 i2)) w4.heap.size #[.int .i64 g.rows.most,.slice p5 g.rows.lists.length c5] 44∧Boxed ((WA.setRow w4.heap.size #[.int .i64 g.rows.most,.slice p5 g.rows.lists.length c5]).setRow (w4.heap.size+1) (ic i0 i1 i2)) (w4.heap.size+1) (ic i0 i1 i2) 52):=by
  refine ⟨Z4.out.1.below Z4.out.1.under b5,Z4.out.2.1.trans (b5.mono Z4.out.2.1.size),Z4.out.2.2.1,Z4.out.2.2.2.1,Z4.out.2.2.2.2.1,Z4.out.2.2.2.2.2.below Z4.out.2.2.2.2.2.under b5,?_,setRow_heap _ _ _ _ _ _ N2.out⟩
  exact (setRow_other _ _ _ _ (by omega)).trans (setRow_heap _ _ _ _ _ _ N1.out.1)
 clear b5 N1 N2 bA HWA M4 Z4
 generalize (WA.setRow w4.heap.size #[.int .i64 g.rows.most,.slice p5 g.rows.lists.length c5]).setRow (w4.heap.size+1) (ic i0 i1 i2)=w5 at M5 Z5 ⊢
 generalize w4.heap.size=S at M5 Z5 ⊢
 clear WA
 obtain ⟨n5,hn5⟩:∃ z,g.rows.lists.length=z:=⟨_,rfl⟩
 obtain ⟨n7,hn7⟩:∃ z,g.fair.flows.length=z:=⟨_,rfl⟩
 obtain ⟨n3,hn3⟩:∃ z,g.tree.length=z:=⟨_,rfl⟩
 have Hn:Hid (rw'.lists.length=n5∧fs.flows.length=n7∧pt.length=n3∧rw'.most=g.rows.most):=⟨by rw [← hn5];exact Hk.out.2.2.2.2.2.2.1,by rw [← hn7];exact Hk.out.2.2.2.2.2.1,by rw [← hn3];exact Hk.out.2.2.2.2.1,Hk.out.2.2.2.2.2.2.2⟩
 have BX5:Hid (Boxed w5 B ((g.mix pt fs rw' false false false).cells (xg.mix p3 c3 p7 c7 p5 c5 false false false)) 50):=(XG.out w5 Z5.out.2.1).1
 rw [hn3]
 refine region_lists (G:=Unit) (by kernel_rfl) (by kernel_rfl) (by kernel_rfl) (fun i=>99) (fun (L:Nat→Bool) (_:Unit) (z:World)=>Boxed z B ((g.mix pt fs rw' (L 8) (L 11) (L 14)).cells (xg.mix p3 c3 p7 c7 p5 c5 (L 8) (L 11) (L 14))) 50∧Span B (B+1) w5 z) (fun i (_:Unit) z (_:Unit) z'=>True) (fun i y x u=>([fun _ _ u=>u = .pointer (some ⟨B,0,none⟩),fun _ _ u=>u = .pointer (some ⟨B,0,none⟩),fun _ _ u=>u = .pointer (some ⟨B,0,none⟩),fun _ _ u=>u = .slice p3 n3 c3,fun _ _ u=>u = .agg #[.int .i64 fs.now,.slice p7 g.fair.flows.length c7],fun _ _ u=>u = .agg #[.int .i64 g.rows.most,.slice p5 g.rows.lists.length c5],fun _ _ u=>u = .pointer (some ⟨B,0,none⟩),fun _ _ u=>u = .pointer (some ⟨B,5,none⟩),fun _ _ _=>True,fun _ _ u=>u = .pointer (some ⟨B,0,none⟩),fun _ _ u=>u = .pointer (some ⟨B,10,none⟩),fun _ _ _=>True,fun _ _ u=>u = .pointer (some ⟨B,0,none⟩),fun _ _ u=>u = .pointer (some ⟨B,7,none⟩),fun _ _ _=>True]:List (Unit→World→Value→Prop)).getD i (fun _ _ _=>True) y x u) ?hR () ?h0 ?step ?last
 case hR =>
  intro i j y y' x x' u hi hj hne hu h1 h2 hp hr
  have hi':i<15:=hi
  have hj':j<15:=hj
  have hcases:j=0∨j=1∨j=2∨j=3∨j=4∨j=5∨j=6∨j=7∨j=8∨j=9∨j=10∨j=11∨j=12∨j=13∨j=14:=by omega
  rcases hcases with rfl|rfl|rfl|rfl|rfl|rfl|rfl|rfl|rfl|rfl|rfl|rfl|rfl|rfl|rfl
  ·exact hp
  ·exact hp
  ·exact hp
  ·exact hp
  ·exact hp
  ·exact hp
  ·exact hp
  ·exact hp
  ·exact hp
  ·exact hp
  ·exact hp
  ·exact hp
  ·exact hp
  ·exact hp
  ·exact hp
 case h0=>exact ⟨BX5.out,Span.of_below (Below.refl _ _).drew⟩
 case step =>
  intro i o hi ho L a' y x hLi hwt hre hkp hI hp
  have s0:a'.tmps[0]?.getD undef = .pointer (some ⟨B,0,none⟩):=tq (hkp.slot 0 (by kernel_rfl))
  have s5:a'.tmps[5]?.getD undef = .slice p3 n3 c3:=tq (hkp.slot 5 (by kernel_rfl))
  have s7:a'.tmps[7]?.getD undef = .pointer (some ⟨F,0,none⟩):=tq (hkp.slot 7 (by kernel_rfl))
  have s9:a'.tmps[9]?.getD undef = .pointer (some ⟨S,0,none⟩):=tq (hkp.slot 9 (by kernel_rfl))
  have hi':i<15:=hi
  have hcases:i=0∨i=1∨i=2∨i=3∨i=4∨i=5∨i=6∨i=7∨i=8∨i=9∨i=10∨i=11∨i=12∨i=13∨i=14:=by omega
  rcases hcases with rfl|rfl|rfl|rfl|rfl|rfl|rfl|rfl|rfl|rfl|rfl|rfl|rfl|rfl|rfl
  ·cases ho
   exact rs_val rfl (fun h=>by cases h) (.pointer (some ⟨B,0,none⟩)) y (by simp [go_sem,s0]) trivial (⟨by simpa using hI.1,hI.2⟩) rfl
  ·cases ho
   exact rs_val rfl (fun h=>by cases h) (.pointer (some ⟨B,0,none⟩)) y (by simp [go_sem,s0]) trivial (⟨by simpa using hI.1,hI.2⟩) rfl
  ·cases ho
   exact rs_val rfl (fun h=>by cases h) (.pointer (some ⟨B,0,none⟩)) y (by simp [go_sem,s0]) trivial (⟨by simpa using hI.1,hI.2⟩) rfl
  ·cases ho
   exact rs_val rfl (fun h=>by cases h) (.slice p3 n3 c3) y (by simp [go_sem,s5]) trivial (⟨by simpa using hI.1,hI.2⟩) rfl
  ·cases ho
   have bf:Boxed x F #[.int .i64 fs.now,.slice p7 g.fair.flows.length c7] 48:=(hI.2.block F (by have:=Z5.out.2.2;have:=Z5.out.2.2.2.2.2.1.under;omega) (by have:=Z5.out.2.2;omega)).trans Z5.out.2.2.2.2.2.1
   have br:Boxed x S #[.int .i64 g.rows.most,.slice p5 g.rows.lists.length c5] 44:=(hI.2.block S Z5.out.2.2.2.2.2.2.1.under (by have:=Z5.out.2.2;omega)).trans Z5.out.2.2.2.2.2.2.1
   have f0:=bf.cell 0 rfl
   have f1:=bf.cell 1 rfl
   exact rs_val rfl (fun h=>by cases h) (.agg #[.int .i64 fs.now,.slice p7 g.fair.flows.length c7]) y (by simp [go_sem,s7,f0,f1]) trivial (⟨by simpa using hI.1,hI.2⟩) rfl
  ·cases ho
   have bf:Boxed x F #[.int .i64 fs.now,.slice p7 g.fair.flows.length c7] 48:=(hI.2.block F (by have:=Z5.out.2.2;have:=Z5.out.2.2.2.2.2.1.under;omega) (by have:=Z5.out.2.2;omega)).trans Z5.out.2.2.2.2.2.1
   have br:Boxed x S #[.int .i64 g.rows.most,.slice p5 g.rows.lists.length c5] 44:=(hI.2.block S Z5.out.2.2.2.2.2.2.1.under (by have:=Z5.out.2.2;omega)).trans Z5.out.2.2.2.2.2.2.1
   have r0:=br.cell 0 rfl
   have r1:=br.cell 1 rfl
   exact rs_val rfl (fun h=>by cases h) (.agg #[.int .i64 g.rows.most,.slice p5 g.rows.lists.length c5]) y (by simp [go_sem,s9,r0,r1]) trivial (⟨by simpa using hI.1,hI.2⟩) rfl
  ·cases ho
   have q0:a'.tmps[56]?.getD undef = .pointer (some ⟨B,0,none⟩):=tq (hp 0 (od (by kernel_rfl)) (.inr (by decide)))
   exact rs_val rfl (fun h=>by cases h) (.pointer (some ⟨B,0,none⟩)) y (by simp [go_sem,q0]) trivial (⟨by simpa using hI.1,hI.2⟩) rfl
  ·cases ho
   have q6:a'.tmps[62]?.getD undef = .pointer (some ⟨B,0,none⟩):=tq (hp 6 (od (by kernel_rfl)) (.inr (by decide)))
   exact rs_val rfl (fun h=>by cases h) (.pointer (some ⟨B,5,none⟩)) y (by simp [go_sem,q6]) trivial (⟨by simpa using hI.1,hI.2⟩) rfl
  ·cases ho
   have ce5:=hI.1.cell 5 rfl
   have ie5:=hI.1.ice 5
   have q3:a'.tmps[59]?.getD undef = .slice p3 n3 c3:=tq (hp 3 (od (by kernel_rfl)) (.inr (by decide)))
   have q7:a'.tmps[63]?.getD undef = .pointer (some ⟨B,5,none⟩):=tq (hp 7 (od (by kernel_rfl)) (.inr (by decide)))
   have P:Boxed (x.setCell ⟨B,5,none⟩ (.slice p3 n3 c3)) B ((g.mix pt fs rw' true (L 11) (L 14)).cells (xg.mix p3 c3 p7 c7 p5 c5 true (L 11) (L 14))) 50:=by
    have p:=(hI.1.put 5 (.slice p3 n3 c3))
    have hL:L 8=false:=hLi
    rw [hL] at p
    have e:∀ la lb,((g.mix pt fs rw' false la lb).cells (xg.mix p3 c3 p7 c7 p5 c5 false la lb)).setIfInBounds 5 (.slice p3 n3 c3)=((g.mix pt fs rw' true la lb).cells (xg.mix p3 c3 p7 c7 p5 c5 true la lb)):=by
     intro la lb
     cases la<;>cases lb<;>(unfold Gt.cells Gt.mix Ga.mix;simp [Hn.out.2.2.1])
    rw [e (L 11) (L 14)] at p
    exact p
   have SP:Span B (B+1) w5 (x.setCell ⟨B,5,none⟩ (.slice p3 n3 c3)):=hI.2.trans ⟨rfl,rfl,rfl,by simp [World.setCell],fun j _ hj=>Below.heap_setCell _ _ _ _ (by show j≠B;omega)⟩
   refine ⟨wno rfl,Oper.wp_mono (K:=fun a'' w''=>a''=a'.put none undef∧w''=(x.setCell ⟨B,5,none⟩ (.slice p3 n3 c3))) ?_ ?_⟩
   ·rintro _ _ ⟨rfl,rfl⟩
    exact ⟨undef,(),rfl,trivial,⟨P,SP⟩,fun _ _=>trivial⟩
   ·unfold Oper.wp
    simp [go_sem,q3,q7,ce5,ie5]
  ·cases ho
   have q1:a'.tmps[57]?.getD undef = .pointer (some ⟨B,0,none⟩):=tq (hp 1 (od (by kernel_rfl)) (.inr (by decide)))
   exact rs_val rfl (fun h=>by cases h) (.pointer (some ⟨B,0,none⟩)) y (by simp [go_sem,q1]) trivial (⟨by simpa using hI.1,hI.2⟩) rfl
  ·cases ho
   have q9:a'.tmps[64]?.getD undef = .pointer (some ⟨B,0,none⟩):=tq (hp 9 (od (by kernel_rfl)) (.inr (by decide)))
   exact rs_val rfl (fun h=>by cases h) (.pointer (some ⟨B,10,none⟩)) y (by simp [go_sem,q9]) trivial (⟨by simpa using hI.1,hI.2⟩) rfl
  ·cases ho
   have ce10:=hI.1.cell 10 rfl
   have ie10:=hI.1.ice 10
   have ce11:=hI.1.cell 11 rfl
   have ie11:=hI.1.ice 11
   have q4:a'.tmps[60]?.getD undef = .agg #[.int .i64 fs.now,.slice p7 g.fair.flows.length c7]:=tq (hp 4 (od (by kernel_rfl)) (.inr (by decide)))
   have q10:a'.tmps[65]?.getD undef = .pointer (some ⟨B,10,none⟩):=tq (hp 10 (od (by kernel_rfl)) (.inr (by decide)))
   have P:Boxed ((x.setCell ⟨B,10,none⟩ (.int .i64 fs.now)).setCell ⟨B,11,none⟩ (.slice p7 g.fair.flows.length c7)) B ((g.mix pt fs rw' (L 8) true (L 14)).cells (xg.mix p3 c3 p7 c7 p5 c5 (L 8) true (L 14))) 50:=by
    have p:=((hI.1.put 10 (.int .i64 fs.now)).put 11 (.slice p7 g.fair.flows.length c7))
    have hL:L 11=false:=hLi
    rw [hL] at p
    have e:∀ la lb,(((g.mix pt fs rw' la false lb).cells (xg.mix p3 c3 p7 c7 p5 c5 la false lb)).setIfInBounds 10 (.int .i64 fs.now)).setIfInBounds 11 (.slice p7 g.fair.flows.length c7)=((g.mix pt fs rw' la true lb).cells (xg.mix p3 c3 p7 c7 p5 c5 la true lb)):=by
     intro la lb
     cases la<;>cases lb<;>(unfold Gt.cells Gt.mix Ga.mix;simp [Hk.out.2.2.2.2.2.1])
    rw [e (L 8) (L 14)] at p
    exact p
   have SP:Span B (B+1) w5 ((x.setCell ⟨B,10,none⟩ (.int .i64 fs.now)).setCell ⟨B,11,none⟩ (.slice p7 g.fair.flows.length c7)):=hI.2.trans ⟨rfl,rfl,rfl,by simp [World.setCell],fun j _ hj=>(Below.heap_setCell _ _ _ _ (by show j≠B;omega)).trans (Below.heap_setCell _ _ _ _ (by show j≠B;omega))⟩
   refine ⟨wno rfl,Oper.wp_mono (K:=fun a'' w''=>a''=a'.put none undef∧w''=((x.setCell ⟨B,10,none⟩ (.int .i64 fs.now)).setCell ⟨B,11,none⟩ (.slice p7 g.fair.flows.length c7))) ?_ ?_⟩
   ·rintro _ _ ⟨rfl,rfl⟩
    exact ⟨undef,(),rfl,trivial,⟨P,SP⟩,fun _ _=>trivial⟩
   ·unfold Oper.wp
    simp [go_sem,q4,q10,ce10,ie10,ce11,ie11]
  ·cases ho
   have q2:a'.tmps[58]?.getD undef = .pointer (some ⟨B,0,none⟩):=tq (hp 2 (od (by kernel_rfl)) (.inr (by decide)))
   exact rs_val rfl (fun h=>by cases h) (.pointer (some ⟨B,0,none⟩)) y (by simp [go_sem,q2]) trivial (⟨by simpa using hI.1,hI.2⟩) rfl
  ·cases ho
   have q12:a'.tmps[66]?.getD undef = .pointer (some ⟨B,0,none⟩):=tq (hp 12 (od (by kernel_rfl)) (.inr (by decide)))
   exact rs_val rfl (fun h=>by cases h) (.pointer (some ⟨B,7,none⟩)) y (by simp [go_sem,q12]) trivial (⟨by simpa using hI.1,hI.2⟩) rfl
  ·cases ho
   have ce7:=hI.1.cell 7 rfl
   have ie7:=hI.1.ice 7
   have ce8:=hI.1.cell 8 rfl
   have ie8:=hI.1.ice 8
   have q5:a'.tmps[61]?.getD undef = .agg #[.int .i64 g.rows.most,.slice p5 g.rows.lists.length c5]:=tq (hp 5 (od (by kernel_rfl)) (.inr (by decide)))
   have q13:a'.tmps[67]?.getD undef = .pointer (some ⟨B,7,none⟩):=tq (hp 13 (od (by kernel_rfl)) (.inr (by decide)))
   have P:Boxed ((x.setCell ⟨B,7,none⟩ (.int .i64 g.rows.most)).setCell ⟨B,8,none⟩ (.slice p5 g.rows.lists.length c5)) B ((g.mix pt fs rw' (L 8) (L 11) true).cells (xg.mix p3 c3 p7 c7 p5 c5 (L 8) (L 11) true)) 50:=by
    have p:=((hI.1.put 7 (.int .i64 g.rows.most)).put 8 (.slice p5 g.rows.lists.length c5))
    have hL:L 14=false:=hLi
    rw [hL] at p
    have e:∀ la lb,(((g.mix pt fs rw' la lb false).cells (xg.mix p3 c3 p7 c7 p5 c5 la lb false)).setIfInBounds 7 (.int .i64 g.rows.most)).setIfInBounds 8 (.slice p5 g.rows.lists.length c5)=((g.mix pt fs rw' la lb true).cells (xg.mix p3 c3 p7 c7 p5 c5 la lb true)):=by
     intro la lb
     cases la<;>cases lb<;>(unfold Gt.cells Gt.mix Ga.mix;simp [Hk.out.2.2.2.2.2.2.1,Hk.out.2.2.2.2.2.2.2])
    rw [e (L 8) (L 11)] at p
    exact p
   have SP:Span B (B+1) w5 ((x.setCell ⟨B,7,none⟩ (.int .i64 g.rows.most)).setCell ⟨B,8,none⟩ (.slice p5 g.rows.lists.length c5)):=hI.2.trans ⟨rfl,rfl,rfl,by simp [World.setCell],fun j _ hj=>(Below.heap_setCell _ _ _ _ (by show j≠B;omega)).trans (Below.heap_setCell _ _ _ _ (by show j≠B;omega))⟩
   refine ⟨wno rfl,Oper.wp_mono (K:=fun a'' w''=>a''=a'.put none undef∧w''=((x.setCell ⟨B,7,none⟩ (.int .i64 g.rows.most)).setCell ⟨B,8,none⟩ (.slice p5 g.rows.lists.length c5))) ?_ ?_⟩
   ·rintro _ _ ⟨rfl,rfl⟩
    exact ⟨undef,(),rfl,trivial,⟨P,SP⟩,fun _ _=>trivial⟩
   ·unfold Oper.wp
    simp [go_sem,q5,q13,ce7,ie7,ce8,ie8]
 case last =>
 intro L a' y x hall hkp hI hp
 have hl8:=hall 8 (by decide)
 have hl11:=hall 11 (by decide)
 have hl14:=hall 14 (by decide)
 rw [hl8,hl11,hl14] at hI
 have ha:=hkp.pick [true,true,true,true,true,true,true,true,true,true,true,true,true,true,true,true,true,true,true,true,true,true,true,true,true,true,true,true,true,true,true,true,true,true,true,true,true,true,true,true,true,true,true,true,true,true,true,true,true,true,true,true,true,true,true,true,false,false,false,false,false,false,false,false,false,false,false,false,true,true,true,true,true,true,true,true,true,true,true,true,true,true,true,true,true,true,true,true,true] (by kernel_rfl)
 simp only [pickS] at ha
 generalize a'.tmps.getD 56 undef=y56 at ha
 generalize a'.tmps.getD 57 undef=y57 at ha
 generalize a'.tmps.getD 58 undef=y58 at ha
 generalize a'.tmps.getD 59 undef=y59 at ha
 generalize a'.tmps.getD 60 undef=y60 at ha
 generalize a'.tmps.getD 61 undef=y61 at ha
 generalize a'.tmps.getD 62 undef=y62 at ha
 generalize a'.tmps.getD 63 undef=y63 at ha
 generalize a'.tmps.getD 64 undef=y64 at ha
 generalize a'.tmps.getD 65 undef=y65 at ha
 generalize a'.tmps.getD 66 undef=y66 at ha
 generalize a'.tmps.getD 67 undef=y67 at ha
 have B6:Hid (Boxed x B (({ { { g with tree:=pt } with fair:=fs } with rows:=rw' }:Gt).cells { { { xg with a3:=p3,c3:=c3 } with a7:=p7,c7:=c7 } with a5:=p5,c5:=c5 }) 50):=hI.1
 have M6:Hid (GtW x { { { xg with a3:=p3,c3:=c3 } with a7:=p7,c7:=c7 } with a5:=p5,c5:=c5 } f4 { { { g with tree:=pt } with fair:=fs } with rows:=rw' }∧f4.In lo S∧f4.Apart∧(∀ b,B≤b∧b≤A→f4.Off b∧f4.t6≤B)):=⟨M5.out.1.off (M5.out.2.2.2 B ⟨nlr,Nat.le_of_lt HBA.out⟩).1 M5.out.2.1 (by have:=Z5.out.2.2.2.2.2.2.1.under;omega) hI.2.size (fun j hj hl=>hI.2.block j hl (by omega)),M5.out.2⟩
 have Z6:Hid (Boxed x A zi 52∧Below lo w x∧(∀ j,B<j→j<w.heap.size→x.heap[j]? = w.heap[j]?)∧B<A∧A<S∧S<x.heap.size∧Boxed x (S+1) (ic i0 i1 i2) 52):=by
  have z:=Z5.out
  have hsz:S<w5.heap.size:=z.2.2.2.2.2.2.1.under
  refine ⟨(hI.2.block A (by omega) (by omega)).trans z.1,?_,fun j h3 h4=>(hI.2.block j (Nat.lt_of_lt_of_le h4 z.2.1.size) (by omega)).trans (z.2.1.block j h4),z.2.2.1,by omega,Nat.lt_of_lt_of_le hsz hI.2.size,(hI.2.block (S+1) z.2.2.2.2.2.2.2.under (by omega)).trans z.2.2.2.2.2.2.2⟩
  have q1:Below lo w w5:=z.2.1.mono (by have:=hG.out.2.2.2;have:=HA.out;omega)
  exact ⟨hI.2.os.trans q1.os,hI.2.tape.trans q1.tape,hI.2.output.trans q1.output,Nat.le_trans q1.size hI.2.size,fun j hj=>(hI.2.block j (by have:=q1.size;have:=hG.out.2.2.2;have:=HA.out;omega) (by have:=hG.out.2.2.2;omega)).trans (q1.block j hj)⟩
 clear hp hkp hI hall hl8 hl11 hl14 M5 Z5 BX5 Hn hn3 hn5 hn7
 rw [ha]
 clear ha
 obtain ⟨w6,hw6⟩:∃ z,z=x:=⟨_,rfl⟩
 rw [← hw6] at M6 Z6 B6 ⊢
 clear hw6 x
 obtain ⟨sk,off,ea6,hsb,hst6,-,-⟩:=M6.out.1.steerSpot (k:=k) Hk.out.2.2.2.1
 have Ea6:Hid (xg.a6=some ⟨sk,off,none⟩):=ea6
 have Hsk:Hid (lo≤sk∧sk<S∧sk<B∧B<A):=by
  have h3:=M6.out.2.1
  have h4:=(M6.out.2.2.2 B ⟨nlr,Nat.le_of_lt HBA.out⟩).2
  have h6:=h3.l6
  have h7:=h3.h6
  have h8:=Z6.out.2.2.2.1
  show lo≤sk∧sk<S∧sk<B∧B<A
  omega
 obtain ⟨p0,p1,p2⟩:=st
 obtain ⟨q0,q1,q2⟩:=sq
 simp only [Sr.val] at A7
 obtain ⟨g6,hg6⟩:∃ z:Gt,z={ { { g with tree:=pt } with fair:=fs } with rows:=rw' }:=⟨_,rfl⟩
 obtain ⟨x6,hx6⟩:∃ z:Ga,z={ { { xg with a3:=p3,c3:=c3 } with a7:=p7,c7:=c7 } with a5:=p5,c5:=c5 }:=⟨_,rfl⟩
 have H6:Hid (g6.tree=pt∧g6.steers=g.steers∧x6.a6=some ⟨sk,off,none⟩∧k<g6.steers.length∧srAt g6.steers k=⟨p0,p1,p2⟩∧x6.c6=xg.c6∧{ g6 with steers:=g6.steers.set k ⟨q0,q1,q2⟩ }=g.go k):=by
  rw [hg6,hx6]
  exact ⟨rfl,rfl,ea6,Hk.out.2.2.2.1,Hlf.out.2,rfl,Fin'.out⟩
 rw [← hg6,← hx6] at M6 B6
 clear hg6 hx6 ea6 hsb hst6
 obtain ⟨ns,hns⟩:∃ z,g6.steers.length=z:=⟨_,rfl⟩
 have Hns:Hid (g6.steers.length=ns):=hns
 have hks:(k:Int)<(ns:Int):=by have:=H6.out.2.2.2.1;omega
 clear hns
 have RY:Hid (∀ z:World,Below w6.heap.size w6 z→z.cell? ⟨B,9,none⟩=some (.slice (some ⟨sk,off,none⟩) ns x6.c6)∧(z.cell? ⟨sk,off+k*3,none⟩=some (.int .i64 p0)∧z.cell? ⟨sk,off+k*3+1,none⟩=some (.int .i64 p1)∧z.cell? ⟨sk,off+k*3+2,none⟩=some (.int .i64 p2))∧(z.frozen? ⟨sk,off+k*3,none⟩=false∧z.frozen? ⟨sk,off+k*3+1,none⟩=false∧z.frozen? ⟨sk,off+k*3+2,none⟩=false)∧Boxed z B (g6.cells x6) 50∧GtW z x6 f4 g6∧Below lo w z∧(∀ j,B<j→j<w.heap.size→z.heap[j]? = w.heap[j]?)∧Boxed z A zi 52∧Boxed z (S+1) (ic i0 i1 i2) 52∧NdsAt z x6.a3 g6.tree):=fun z q=>by
  have bz:=B6.out.below B6.out.under q
  have gz:=M6.out.1.below q
  obtain ⟨sk',off',ea,-,-,cz,fz⟩:=gz.steerSpot (k:=k) H6.out.2.2.2.1
  rw [H6.out.2.2.1] at ea
  cases ea
  rw [H6.out.2.2.2.2.1] at cz
  have hlo:lo≤w6.heap.size:=by have:=Hsk.out;have:=Z6.out.2.2.2.2.2.1;omega
  refine ⟨?_,cz,fz,bz,gz,Z6.out.2.1.trans (q.mono hlo),fun j h3 h4=>(q.block j (Nat.lt_of_lt_of_le h4 Z6.out.2.1.size)).trans (Z6.out.2.2.1 j h3 h4),Z6.out.1.below Z6.out.1.under q,Z6.out.2.2.2.2.2.2.below Z6.out.2.2.2.2.2.2.under q,gz.at.tree.spot'⟩
  rw [← H6.out.2.2.1,← Hns.out]
  exact bz.cell 9 rfl
 go_upto_region 6 with fail
 refine region_lists (G:=Unit) (by kernel_rfl) (by kernel_rfl) (by kernel_rfl) (fun i=>99) (fun (L:Nat→Bool) (_:Unit) (z:World)=>(L 20=false→Below w6.heap.size w6 z)∧(L 20=true→(∃ xa fa,Boxed z B ((g.go k).cells xa) 50∧GtW z xa fa (g.go k)∧fa.In lo S∧fa.Apart∧∀ j,B<j→j≤A→fa.Off j)∧Below lo w z∧(∀ j,B<j→j<w.heap.size→z.heap[j]? = w.heap[j]?)∧Boxed z A zi 52∧Boxed z (S+1) (ic i0 i1 i2) 52)) (fun i (_:Unit) z (_:Unit) z'=>True) (fun i y x u=>([fun _ _ u=>u = .pointer (some ⟨B,0,none⟩),fun _ _ u=>u = .pointer (some ⟨B,0,none⟩),fun _ _ u=>u = .pointer (some ⟨B,9,none⟩),fun _ _ u=>u = .slice (some ⟨sk,off,none⟩) ns x6.c6,fun _ _ u=>u = .int .i64 k,fun _ _ u=>u = .pointer (some ⟨B,0,none⟩),fun _ _ u=>u = .pointer (some ⟨B,0,none⟩),fun _ _ u=>u = .pointer (some ⟨B,9,none⟩),fun _ _ u=>u = .slice (some ⟨sk,off,none⟩) ns x6.c6,fun _ _ u=>u = .int .i64 k,fun _ _ u=>u = .pointer (some ⟨sk,off+k*3,none⟩),fun _ _ u=>u = .agg (ic p0 p1 p2),fun _ _ u=>u = .agg (ic i0 i1 i2),fun _ _ u=>u = .pointer (some ⟨B,0,none⟩),fun _ _ u=>u = .pointer (some ⟨B,0,none⟩),fun _ _ u=>u = .agg (g6.cells x6),fun _ _ u=>u = .int .i64 tm,fun _ _ u=>u = .int .i64 d,fun _ _ u=>u = .agg (ic q0 q1 q2),fun _ _ u=>u = .pointer (some ⟨sk,off+k*3,none⟩),fun _ _ _=>True]:List (Unit→World→Value→Prop)).getD i (fun _ _ _=>True) y x u) ?hR () ?h0 ?step ?last
 case hR =>
  intro i j y y' x x' u hi hj hne hu h1 h2 hp hr
  have hi':i<21:=hi
  have hj':j<21:=hj
  have hcases:j=0∨j=1∨j=2∨j=3∨j=4∨j=5∨j=6∨j=7∨j=8∨j=9∨j=10∨j=11∨j=12∨j=13∨j=14∨j=15∨j=16∨j=17∨j=18∨j=19∨j=20:=by omega
  rcases hcases with rfl|rfl|rfl|rfl|rfl|rfl|rfl|rfl|rfl|rfl|rfl|rfl|rfl|rfl|rfl|rfl|rfl|rfl|rfl|rfl|rfl
  ·exact hp
  ·exact hp
  ·exact hp
  ·exact hp
  ·exact hp
  ·exact hp
  ·exact hp
  ·exact hp
  ·exact hp
  ·exact hp
  ·exact hp
  ·exact hp
  ·exact hp
  ·exact hp
  ·exact hp
  ·exact hp
  ·exact hp
  ·exact hp
  ·exact hp
  ·exact hp
  ·exact hp
 case h0=>exact ⟨fun _=>(Below.refl _ _).drew,fun h=>by simp at h⟩
 case step =>
  intro i o hi ho L a' y x hLi hwt hre hkp hI hp
  have s0:a'.tmps[0]?.getD undef = .pointer (some ⟨B,0,none⟩):=tq (hkp.slot 0 (by kernel_rfl))
  have s1:a'.tmps[1]?.getD undef = .int .i64 k:=tq (hkp.slot 1 (by kernel_rfl))
  have s10:a'.tmps[10]?.getD undef = .pointer (some ⟨S+1,0,none⟩):=tq (hkp.slot 10 (by kernel_rfl))
  have hi':i<21:=hi
  have hcases:i=0∨i=1∨i=2∨i=3∨i=4∨i=5∨i=6∨i=7∨i=8∨i=9∨i=10∨i=11∨i=12∨i=13∨i=14∨i=15∨i=16∨i=17∨i=18∨i=19∨i=20:=by omega
  rcases hcases with rfl|rfl|rfl|rfl|rfl|rfl|rfl|rfl|rfl|rfl|rfl|rfl|rfl|rfl|rfl|rfl|rfl|rfl|rfl|rfl|rfl
  ·cases ho
   exact rs_val rfl (fun h=>by cases h) (.pointer (some ⟨B,0,none⟩)) y (by simp [go_sem,s0]) trivial (⟨fun h=>hI.1 (by simpa using h),fun h=>hI.2 (by simpa using h)⟩) rfl
  ·cases ho
   have q0:a'.tmps[68]?.getD undef = .pointer (some ⟨B,0,none⟩):=tq (hp 0 (od (by kernel_rfl)) (.inr (by decide)))
   exact rs_val rfl (fun h=>by cases h) (.pointer (some ⟨B,0,none⟩)) y (by simp [go_sem,q0]) trivial (⟨fun h=>hI.1 (by simpa using h),fun h=>hI.2 (by simpa using h)⟩) rfl
  ·cases ho
   have q1:a'.tmps[69]?.getD undef = .pointer (some ⟨B,0,none⟩):=tq (hp 1 (od (by kernel_rfl)) (.inr (by decide)))
   exact rs_val rfl (fun h=>by cases h) (.pointer (some ⟨B,9,none⟩)) y (by simp [go_sem,q1]) trivial (⟨fun h=>hI.1 (by simpa using h),fun h=>hI.2 (by simpa using h)⟩) rfl
  ·cases ho
   have n20:=hre 20 (by decide +kernel)
   have hB:=hI.1 n20
   obtain ⟨f9,⟨fs0,fs1,fs2⟩,⟨fz0,fz1,fz2⟩,fbx,fgw,fbel,fhi,fA,fI,fnd⟩:=RY.out x hB
   have q2:a'.tmps[70]?.getD undef = .pointer (some ⟨B,9,none⟩):=tq (hp 2 (od (by kernel_rfl)) (.inr (by decide)))
   exact rs_val rfl (fun h=>by cases h) (.slice (some ⟨sk,off,none⟩) ns x6.c6) y (by simp [go_sem,q2,f9]) trivial (⟨fun h=>hI.1 (by simpa using h),fun h=>hI.2 (by simpa using h)⟩) rfl
  ·cases ho
   exact rs_val rfl (fun h=>by cases h) (.int .i64 k) y (by simp [go_sem,s1]) trivial (⟨fun h=>hI.1 (by simpa using h),fun h=>hI.2 (by simpa using h)⟩) rfl
  ·cases ho
   exact rs_val rfl (fun h=>by cases h) (.pointer (some ⟨B,0,none⟩)) y (by simp [go_sem,s0]) trivial (⟨fun h=>hI.1 (by simpa using h),fun h=>hI.2 (by simpa using h)⟩) rfl
  ·cases ho
   have q5:a'.tmps[73]?.getD undef = .pointer (some ⟨B,0,none⟩):=tq (hp 5 (od (by kernel_rfl)) (.inr (by decide)))
   exact rs_val rfl (fun h=>by cases h) (.pointer (some ⟨B,0,none⟩)) y (by simp [go_sem,q5]) trivial (⟨fun h=>hI.1 (by simpa using h),fun h=>hI.2 (by simpa using h)⟩) rfl
  ·cases ho
   have q6:a'.tmps[74]?.getD undef = .pointer (some ⟨B,0,none⟩):=tq (hp 6 (od (by kernel_rfl)) (.inr (by decide)))
   exact rs_val rfl (fun h=>by cases h) (.pointer (some ⟨B,9,none⟩)) y (by simp [go_sem,q6]) trivial (⟨fun h=>hI.1 (by simpa using h),fun h=>hI.2 (by simpa using h)⟩) rfl
  ·cases ho
   have n20:=hre 20 (by decide +kernel)
   have hB:=hI.1 n20
   obtain ⟨f9,⟨fs0,fs1,fs2⟩,⟨fz0,fz1,fz2⟩,fbx,fgw,fbel,fhi,fA,fI,fnd⟩:=RY.out x hB
   have q7:a'.tmps[75]?.getD undef = .pointer (some ⟨B,9,none⟩):=tq (hp 7 (od (by kernel_rfl)) (.inr (by decide)))
   exact rs_val rfl (fun h=>by cases h) (.slice (some ⟨sk,off,none⟩) ns x6.c6) y (by simp [go_sem,q7,f9]) trivial (⟨fun h=>hI.1 (by simpa using h),fun h=>hI.2 (by simpa using h)⟩) rfl
  ·cases ho
   exact rs_val rfl (fun h=>by cases h) (.int .i64 k) y (by simp [go_sem,s1]) trivial (⟨fun h=>hI.1 (by simpa using h),fun h=>hI.2 (by simpa using h)⟩) rfl
  ·cases ho
   have q8:a'.tmps[76]?.getD undef = .slice (some ⟨sk,off,none⟩) ns x6.c6:=tq (hp 8 (od (by kernel_rfl)) (.inr (by decide)))
   have q9:a'.tmps[77]?.getD undef = .int .i64 k:=tq (hp 9 (od (by kernel_rfl)) (.inr (by decide)))
   exact rs_val rfl (fun h=>by cases h) (.pointer (some ⟨sk,off+k*3,none⟩)) y (by simp [go_sem,q8,q9,hks]) trivial (⟨fun h=>hI.1 (by simpa using h),fun h=>hI.2 (by simpa using h)⟩) rfl
  ·cases ho
   have n20:=hre 20 (by decide +kernel)
   have hB:=hI.1 n20
   obtain ⟨f9,⟨fs0,fs1,fs2⟩,⟨fz0,fz1,fz2⟩,fbx,fgw,fbel,fhi,fA,fI,fnd⟩:=RY.out x hB
   have q10:a'.tmps[78]?.getD undef = .pointer (some ⟨sk,off+k*3,none⟩):=tq (hp 10 (od (by kernel_rfl)) (.inr (by decide)))
   exact rs_val rfl (fun h=>by cases h) (.agg (ic p0 p1 p2)) y (by simp [go_sem,q10,fs0,fs1,fs2]) trivial (⟨fun h=>hI.1 (by simpa using h),fun h=>hI.2 (by simpa using h)⟩) rfl
  ·cases ho
   have n20:=hre 20 (by decide +kernel)
   have hB:=hI.1 n20
   obtain ⟨f9,⟨fs0,fs1,fs2⟩,⟨fz0,fz1,fz2⟩,fbx,fgw,fbel,fhi,fA,fI,fnd⟩:=RY.out x hB
   have j0:=fI.cell 0 rfl
   have j1:=fI.cell 1 rfl
   have j2:=fI.cell 2 rfl
   exact rs_val rfl (fun h=>by cases h) (.agg (ic i0 i1 i2)) y (by simp [go_sem,s10,j0,j1,j2]) trivial (⟨fun h=>hI.1 (by simpa using h),fun h=>hI.2 (by simpa using h)⟩) rfl
  ·cases ho
   exact rs_val rfl (fun h=>by cases h) (.pointer (some ⟨B,0,none⟩)) y (by simp [go_sem,s0]) trivial (⟨fun h=>hI.1 (by simpa using h),fun h=>hI.2 (by simpa using h)⟩) rfl
  ·cases ho
   have q13:a'.tmps[81]?.getD undef = .pointer (some ⟨B,0,none⟩):=tq (hp 13 (od (by kernel_rfl)) (.inr (by decide)))
   exact rs_val rfl (fun h=>by cases h) (.pointer (some ⟨B,0,none⟩)) y (by simp [go_sem,q13]) trivial (⟨fun h=>hI.1 (by simpa using h),fun h=>hI.2 (by simpa using h)⟩) rfl
  ·cases ho
   have n20:=hre 20 (by decide +kernel)
   have hB:=hI.1 n20
   obtain ⟨f9,⟨fs0,fs1,fs2⟩,⟨fz0,fz1,fz2⟩,fbx,fgw,fbel,fhi,fA,fI,fnd⟩:=RY.out x hB
   have q14:a'.tmps[82]?.getD undef = .pointer (some ⟨B,0,none⟩):=tq (hp 14 (od (by kernel_rfl)) (.inr (by decide)))
   exact ⟨wno rfl,wp_load_row 50 (.tmp 82) rfl B (by simpa [Act.eval] using q14) _ _ _ _ fbx Tryz.underlying50 rfl (by rw [Gt.cells_size];kernel_rfl) ⟨_,y,rfl,trivial,⟨fun h=>hI.1 (by simpa using h),fun h=>hI.2 (by simpa using h)⟩,fun u hu=>hu (fun h=>by cases h)⟩⟩
  ·cases ho
   have n20:=hre 20 (by decide +kernel)
   have hB:=hI.1 n20
   obtain ⟨f9,⟨fs0,fs1,fs2⟩,⟨fz0,fz1,fz2⟩,fbx,fgw,fbel,fhi,fA,fI,fnd⟩:=RY.out x hB
   have q15:a'.tmps[83]?.getD undef = .agg (g6.cells x6):=tq (hp 15 (od (by kernel_rfl)) (.inr (by decide)))
   refine ⟨wno rfl,op_callR (f:=113) (args:=#[.agg (g6.cells x6)]) (by simp [execOp,resolve,Deferred.ofValue,invoke,Act.eval,q15]) (A5.out x x6 g6 H6.out.1 fnd) ?_⟩
   rintro e x1 ⟨rfl,q⟩
   exact ⟨_,rfl,_,y,rfl,trivial,⟨fun _=>hB.trans (q.mono hB.size),fun h=>absurd (show L 20=true by simpa using h) (by rw [n20];decide)⟩,fun u hu=>hu (fun h=>by cases h)⟩
  ·cases ho
   have n20:=hre 20 (by decide +kernel)
   have hB:=hI.1 n20
   obtain ⟨f9,⟨fs0,fs1,fs2⟩,⟨fz0,fz1,fz2⟩,fbx,fgw,fbel,fhi,fA,fI,fnd⟩:=RY.out x hB
   have q12:a'.tmps[80]?.getD undef = .agg (ic i0 i1 i2):=tq (hp 12 (od (by kernel_rfl)) (.inr (by decide)))
   have q16:a'.tmps[84]?.getD undef = .int .i64 tm:=tq (hp 16 (od (by kernel_rfl)) (.inr (by decide)))
   refine ⟨wno rfl,op_callR (f:=112) (args:=#[.agg (ic i0 i1 i2),.int .i64 tm]) (by simp [execOp,resolve,Deferred.ofValue,invoke,Act.eval,q12,q16]) (A6.out x) ?_⟩
   rintro e x1 ⟨rfl,q⟩
   exact ⟨_,rfl,_,y,rfl,trivial,⟨fun _=>hB.trans (q.mono hB.size),fun h=>absurd (show L 20=true by simpa using h) (by rw [n20];decide)⟩,fun u hu=>hu (fun h=>by cases h)⟩
  ·cases ho
   have n20:=hre 20 (by decide +kernel)
   have hB:=hI.1 n20
   obtain ⟨f9,⟨fs0,fs1,fs2⟩,⟨fz0,fz1,fz2⟩,fbx,fgw,fbel,fhi,fA,fI,fnd⟩:=RY.out x hB
   have q11:a'.tmps[79]?.getD undef = .agg (ic p0 p1 p2):=tq (hp 11 (od (by kernel_rfl)) (.inr (by decide)))
   have q17:a'.tmps[85]?.getD undef = .int .i64 d:=tq (hp 17 (od (by kernel_rfl)) (.inr (by decide)))
   refine ⟨wno rfl,op_callR (f:=111) (args:=#[.agg (ic p0 p1 p2),.int .i64 d]) (by simp [execOp,resolve,Deferred.ofValue,invoke,Act.eval,q11,q17]) (A7.out x (Hdv.out x fbel)) ?_⟩
   rintro e x1 ⟨rfl,q⟩
   exact ⟨_,rfl,_,y,rfl,trivial,⟨fun _=>hB.trans (q.mono hB.size),fun h=>absurd (show L 20=true by simpa using h) (by rw [n20];decide)⟩,fun u hu=>hu (fun h=>by cases h)⟩
  ·cases ho
   have q3:a'.tmps[71]?.getD undef = .slice (some ⟨sk,off,none⟩) ns x6.c6:=tq (hp 3 (od (by kernel_rfl)) (.inr (by decide)))
   have q4:a'.tmps[72]?.getD undef = .int .i64 k:=tq (hp 4 (od (by kernel_rfl)) (.inr (by decide)))
   exact rs_val rfl (fun h=>by cases h) (.pointer (some ⟨sk,off+k*3,none⟩)) y (by simp [go_sem,q3,q4,hks]) trivial (⟨fun h=>hI.1 (by simpa using h),fun h=>hI.2 (by simpa using h)⟩) rfl
  ·cases ho
   have hB:=hI.1 hLi
   obtain ⟨f9,⟨fs0,fs1,fs2⟩,⟨fz0,fz1,fz2⟩,fbx,fgw,fbel,fhi,fA,fI,fnd⟩:=RY.out x hB
   have q18:a'.tmps[86]?.getD undef = .agg (ic q0 q1 q2):=tq (hp 18 (od (by kernel_rfl)) (.inr (by decide)))
   have q19:a'.tmps[87]?.getD undef = .pointer (some ⟨sk,off+k*3,none⟩):=tq (hp 19 (od (by kernel_rfl)) (.inr (by decide)))
   have Fz:(∃ xa fa,Boxed (((x.setCell ⟨sk,off+k*3,none⟩ (.int .i64 q0)).setCell ⟨sk,off+k*3+1,none⟩ (.int .i64 q1)).setCell ⟨sk,off+k*3+2,none⟩ (.int .i64 q2)) B ((g.go k).cells xa) 50∧GtW (((x.setCell ⟨sk,off+k*3,none⟩ (.int .i64 q0)).setCell ⟨sk,off+k*3+1,none⟩ (.int .i64 q1)).setCell ⟨sk,off+k*3+2,none⟩ (.int .i64 q2)) xa fa (g.go k)∧fa.In lo S∧fa.Apart∧∀ j,B<j→j≤A→fa.Off j)∧Below lo w (((x.setCell ⟨sk,off+k*3,none⟩ (.int .i64 q0)).setCell ⟨sk,off+k*3+1,none⟩ (.int .i64 q1)).setCell ⟨sk,off+k*3+2,none⟩ (.int .i64 q2))∧(∀ j,B<j→j<w.heap.size→(((x.setCell ⟨sk,off+k*3,none⟩ (.int .i64 q0)).setCell ⟨sk,off+k*3+1,none⟩ (.int .i64 q1)).setCell ⟨sk,off+k*3+2,none⟩ (.int .i64 q2)).heap[j]? = w.heap[j]?)∧Boxed (((x.setCell ⟨sk,off+k*3,none⟩ (.int .i64 q0)).setCell ⟨sk,off+k*3+1,none⟩ (.int .i64 q1)).setCell ⟨sk,off+k*3+2,none⟩ (.int .i64 q2)) A zi 52∧Boxed (((x.setCell ⟨sk,off+k*3,none⟩ (.int .i64 q0)).setCell ⟨sk,off+k*3+1,none⟩ (.int .i64 q1)).setCell ⟨sk,off+k*3+2,none⟩ (.int .i64 q2)) (S+1) (ic i0 i1 i2) 52:=by
    have hS:S≤x.heap.size:=by have:=fI.under;omega
    have hk:=Hsk.out
    obtain ⟨pp,ps⟩:=fgw.putSteer M6.out.2.1 hS M6.out.2.2.1 H6.out.2.2.1 H6.out.2.2.2.1 ⟨q0,q1,q2⟩
    have hn:∀ j,j≠sk→(((x.setCell ⟨sk,off+k*3,none⟩ (.int .i64 q0)).setCell ⟨sk,off+k*3+1,none⟩ (.int .i64 q1)).setCell ⟨sk,off+k*3+2,none⟩ (.int .i64 q2)).heap[j]? = x.heap[j]? := fun j hj=>((Below.heap_setCell _ _ _ _ hj).trans (Below.heap_setCell _ _ _ _ hj)).trans (Below.heap_setCell _ _ _ _ hj)
    rw [H6.out.2.2.2.2.2.2] at pp
    refine ⟨⟨x6,f4,?_,pp,M6.out.2.1,M6.out.2.2.1,fun j h3 h4=>(M6.out.2.2.2 j ⟨Nat.le_of_lt h3,h4⟩).1⟩,((fbel.setCell hk.1 _).setCell hk.1 _).setCell hk.1 _,fun j h3 h4=>?_,(hn A (by omega)).trans fA,(hn (S+1) (by omega)).trans fI⟩
    ·have e:(g.go k).cells x6=g6.cells x6:=by
      rw [← H6.out.2.2.2.2.2.2]
      unfold Gt.cells
      simp only [List.length_set]
     rw [e]
     exact (hn B (by omega)).trans fbx
    ·exact (hn j (by omega)).trans (fhi j h3 h4)
   refine ⟨wno rfl,Oper.wp_mono (K:=fun a'' w''=>a''=a'.put none undef∧w''=(((x.setCell ⟨sk,off+k*3,none⟩ (.int .i64 q0)).setCell ⟨sk,off+k*3+1,none⟩ (.int .i64 q1)).setCell ⟨sk,off+k*3+2,none⟩ (.int .i64 q2))) ?_ ?_⟩
   ·rintro _ _ ⟨rfl,rfl⟩
    exact ⟨undef,(),rfl,trivial,⟨fun h=>by simp at h,fun _=>Fz⟩,fun _ _=>trivial⟩
   ·unfold Oper.wp
    simp [go_sem,q18,q19,fs0,fs1,fs2,fz0,fz1,fz2]
 case last =>
 intro L a' y x hall hkp hI hp
 have Zf:=hI.2 (hall 20 (by decide))
 have ZF:Hid _:=Zf
 have ha:=hkp.pick [true,true,true,true,true,true,true,true,true,true,true,true,true,true,true,true,true,true,true,true,true,true,true,true,true,true,true,true,true,true,true,true,true,true,true,true,true,true,true,true,true,true,true,true,true,true,true,true,true,true,true,true,true,true,true,true,true,true,true,true,true,true,true,true,true,true,true,true,false,false,false,false,false,false,false,false,false,false,false,false,false,false,false,false,false,false,false,false,true] (by kernel_rfl)
 simp only [pickS] at ha
 clear hp hkp hI hall Zf RY
 generalize a'.tmps.getD 68 undef=y68 at ha
 generalize a'.tmps.getD 69 undef=y69 at ha
 generalize a'.tmps.getD 70 undef=y70 at ha
 generalize a'.tmps.getD 71 undef=y71 at ha
 generalize a'.tmps.getD 72 undef=y72 at ha
 generalize a'.tmps.getD 73 undef=y73 at ha
 generalize a'.tmps.getD 74 undef=y74 at ha
 generalize a'.tmps.getD 75 undef=y75 at ha
 generalize a'.tmps.getD 76 undef=y76 at ha
 generalize a'.tmps.getD 77 undef=y77 at ha
 generalize a'.tmps.getD 78 undef=y78 at ha
 generalize a'.tmps.getD 79 undef=y79 at ha
 generalize a'.tmps.getD 80 undef=y80 at ha
 generalize a'.tmps.getD 81 undef=y81 at ha
 generalize a'.tmps.getD 82 undef=y82 at ha
 generalize a'.tmps.getD 83 undef=y83 at ha
 generalize a'.tmps.getD 84 undef=y84 at ha
 generalize a'.tmps.getD 85 undef=y85 at ha
 generalize a'.tmps.getD 86 undef=y86 at ha
 generalize a'.tmps.getD 87 undef=y87 at ha
 rw [ha]
 clear ha
 go_upto_region 7 with fail
 have k0:=ZF.out.2.2.2.2.cell 0 rfl
 have k1:=ZF.out.2.2.2.2.cell 1 rfl
 have k2:=ZF.out.2.2.2.2.cell 2 rfl
 go_wp2_with (refine wpList_store_row rfl 52 (.tmp 4) (.tmp 88) rfl A (ic i0 i1 i2) rfl rfl _ _ ZF.out.2.2.2.1 (by kernel_rfl) rfl (by simp [Value.oneCell']) ?_)
 refine bodyPost_ret (results_cell_row Tryz.results38 _ _ A _ _ _ _ rfl (setRow_heap _ A _ _ _ _ ZF.out.2.2.2.1) Tryz.underlying52 rfl (by kernel_rfl)) rfl (H1'.out _ ?_)
 obtain ⟨⟨x7,f7,u1,u2,u3,u4,u5⟩,u6,u7,u8,u9⟩:=ZF.out
 have hA:=HA.out
 have hlB:=hG.out.2.2.2
 have hBA:=Z6.out.2.2.2.1
 have hsr:=size_setRow x A (ic i0 i1 i2)
 have hS:=u9.under
 refine ⟨⟨x7,f7,(setRow_other _ _ _ _ (by omega)).trans u1,u2.off (u5 A (by omega) nlr) u3 (by omega) (Nat.le_of_eq hsr.symm) (fun j hj _=>setRow_other _ _ _ _ hj),u3.wide nlr (by omega),u4,fun j h3 h4=>u5 j h3 (by omega)⟩,below_setRow u6 (by omega) _,fun j h3 h4=>(setRow_other _ _ _ _ (by omega)).trans (u7 j h3 h4)⟩
end Go.Proofs.YtgebghkcikmfaaaGreatDoor
