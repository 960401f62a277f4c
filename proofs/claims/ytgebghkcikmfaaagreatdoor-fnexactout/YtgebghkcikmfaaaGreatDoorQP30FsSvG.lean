import Derived.Test.YtgebghkcikmfaaaGreatDoorQP29FsServe
set_option maxHeartbeats 6400000
set_option maxRecDepth 100000
namespace Go.Proofs.YtgebghkcikmfaaaGreatDoor
open Go.RowKit
structure FaAt (w:World) (B:Nat) (now:Int) (v:Value):Prop where
 c0:w.cell? ⟨B,10,none⟩=some (.int .i64 now)
 c1:w.cell? ⟨B,11,none⟩=some v
 ice:w.frozen? ⟨B,10,none⟩=false
 lt:B<w.heap.size
structure FwOff (B:Nat) (v:Value) (rs:List Fwr) (n:Nat):Prop where
 outer:v.ownBlock≠some B
 row:∀ i,i<n→(fwrAt rs i).hd.ownBlock≠some B
structure FrG (B:Nat) (v:Value) (w w':World):Prop where
 bel:Below 0 w w'
 block:∀ k,k<w.heap.size→k≠B→v.ownBlock≠some k→w'.heap[k]? = w.heap[k]?
section
variable {B:Nat} {v:Value} {w w' w'':World} {base:Nat}
theorem FaAt.below {n:Int} (h:FaAt w B n v) (q:Bel w w'):FaAt w' B n v:=⟨by rw [q.cell (p:=⟨B,10,none⟩) h.lt];exact h.c0,by rw [q.cell (p:=⟨B,11,none⟩) h.lt];exact h.c1,by rw [ice_kept (q.block B h.lt)];exact h.ice,Nat.lt_of_lt_of_le h.lt q.size⟩
theorem FrG.of (h:Bel w w'):FrG B v w w':=⟨h.mono (Nat.zero_le _),fun k hk _ _=>h.block k hk⟩
theorem FrG.trans (h:FrG B v w w') (g:FrG B v w' w''):FrG B v w w'':=⟨h.bel.trans g.bel,fun k hk h1 h2=>(g.block k (Nat.lt_of_lt_of_le hk h.bel.size) h1 h2).trans (h.block k hk h1 h2)⟩
theorem FrG.set (h:FrG B v w w') {g o:Nat} (hg:v.ownBlock=some g∨g=B) (u:Value):FrG B v w (w'.setCell ⟨g,o,none⟩ u) :=
 ⟨h.bel.setCell (Nat.zero_le _) u,fun k hk h1 h2=>(Below.heap_setCell _ _ _ _ (by show k≠g;rintro rfl;rcases hg with hg|hg;exact h2 hg;exact h1 hg)).trans (h.block k hk h1 h2)⟩
theorem FwG.keepO {rs:List Fwr} {l:List Fw} (h:FwG base v rs l w) (f:FwOff B v rs l.length) (o:∀ k,k≠B→k<w.heap.size→w'.heap[k]? = w.heap[k]?):FwG base v rs l w' :=
 ⟨fwrows_carry h.outer fun k hk hl=>o k (fun e=>f.outer (by rw [hk,e])) hl,h.len,h.num,fun i hi=>fwrows_carry (h.row i hi) fun k hk hl=>o k (fun e=>f.row i hi (by rw [hk,e])) hl,h.apart⟩
end
theorem arr_same {cs:Array Value} {j:Nat} {v:Value} (h:cs[j]? = some v):cs.setIfInBounds j v=cs:=by
 apply Array.ext
 ·simp
 ·intro i h1 h2
  rw [Array.getElem_setIfInBounds (by simpa using h1)]
  split
  ·rename_i e
   subst e
   have:=Array.getElem?_eq_some_iff.1 h
   exact this.2.symm
  ·rfl
def SvG (B:Nat) (base:Nat) (v:Value) (n:Nat) (rs:List Fwr) (z:Fs) (w w':World):Prop:=(∃ rs',FwG base v rs' z.flows w'∧FwOff B v rs' n∧∀ i,i<n→∀ k,(fwrAt rs' i).hd.ownBlock=some k→(fwrAt rs i).hd.ownBlock=some k∨w.heap.size≤k)∧(∀ (cs:Array Value) (t:TypeId),Boxed w B cs t→Boxed w' B (cs.setIfInBounds 10 (.int .i64 z.now)) t)∧FrG B v w w'
theorem fwr_hd' {rs:List Fwr} {j i:Nat} {r:Fwr} (hj:j<rs.length):(fwrAt (rs.set j r) i).hd=if i=j then r.hd else (fwrAt rs i).hd:=by
 unfold fwrAt
 by_cases e:i=j
 ·subst e
  rw [List.getElem?_set_self hj,if_pos rfl]
  rfl
 ·rw [List.getElem?_set_ne (fun h=>e h.symm),if_neg e]
theorem specServeG (d:Fs) (base B:Nat) (v:Value) (rs:List Fwr) (i:Nat) (w:World) (hk:d.ok=true) (hi:i<d.flows.length) (hw:d.waits i=true) (hG:Hid (FwG base v rs d.flows w)) (hbx:Hid (FaAt w B d.now v)) (hof:Hid (FwOff B v rs d.flows.length)) (hbb:base≤w.heap.size) :
 Calls Tryz.prog 79 #[.pointer (some ⟨B,10,none⟩),.int .i64 i] w fun e w'=>e = .returned (.bool (decide (d.endOf i≤1125899906842624))) ∧
  SvG B base v d.flows.length rs (if d.endOf i≤1125899906842624 then d.serve i else d) w w':=by
 have hw':=of_decide_eq_true hw
 have h1:=Fs.ok_iff.1 hk
 have h2:=Fw.ok_iff.1 (Fs.ok_at hk hi)
 have hbe:=Fs.beg_in hk hi
 have hsz:=h2.2.2.2 _ (szAt_mem (j:=0) hw')
 have KW:=serve_wraps h2.1 hsz (show 0≤d.beg i∧d.beg i≤1125899906842624 by omega)
 have B1:=fun v w h=>specBeg d v i w hi (by omega) h
 have He:Hid (d.endOf i=d.beg i+szAt (fwAt d.flows i).sizes 0*(2520/(fwAt d.flows i).weight)):=rfl
 have Hsv:Hid (d.serve i=⟨d.beg i,d.flows.set i ⟨(fwAt d.flows i).weight,d.endOf i,(fwAt d.flows i).sizes.drop 1⟩⟩):=rfl
 obtain ⟨g,cap,rfl,hgb,hgl⟩:=hG.out.place hi
 have B2:∀ w,FwsAt w (some ⟨g,0,none⟩) d.flows→Calls Tryz.prog 78 #[.agg #[.int .i64 d.now,.slice (some ⟨g,0,none⟩) d.flows.length cap],.int .i64 i] w fun e w'=>e = .returned (.int .i64 (d.beg i))∧Bel w w':=fun w h=>B1 _ w ⟨_,_,rfl,h⟩
 generalize d.serve i=sv at Hsv ⊢
 generalize d.endOf i=ee at He Hsv ⊢
 generalize d.beg i=bg at B2 He Hsv hbe KW
 clear B1 h1 hk hw
 obtain ⟨f,ls⟩:=d
 simp only at hi hw' h2 hsz hG hbx B2 He Hsv hbe KW ⊢
 have Hc:Hid _:=hG.out.cells hi
 have Hlz:=hG.out.row i hi
 obtain ⟨n,hn⟩:∃ n,ls.length=n:=⟨_,rfl⟩
 have Hn:Hid (ls.length=n):=hn
 rw [hn] at hi B2 hbx hof ⊢
 have hn8:n≤1048576∨True:=.inr trivial
 obtain ⟨x,hx⟩:∃ x,fwAt ls i=x:=⟨_,rfl⟩
 have Hx:Hid (fwAt ls i=x):=hx
 rw [hx] at hw' h2 hsz He Hsv hbe KW Hc Hlz
 obtain ⟨wt,fn,sz⟩:=x
 simp only at hw' h2 hsz He Hsv hbe KW Hc Hlz
 obtain ⟨m,hm⟩:∃ m,sz.length=m+1:=⟨sz.length-1,by omega⟩
 have Hm:Hid (sz.length=m+1):=hm
 obtain ⟨r,rc,ehd,hrb⟩:∃ r rc,(fwrAt rs i).hd = .slice (some ⟨r,0,none⟩) (m+1) rc∧m+1≤rc:=by
  rcases Hlz.2 with ⟨_,e⟩|⟨g0,cap0,cur0,e0,hb0,hg0,hc0,_⟩
  ·omega
  ·rw [hm] at e0 hc0;exact ⟨g0,cap0,e0,hc0⟩
 have Hrow:Hid (IRow base w (.slice (some ⟨r,0,none⟩) (m+1) rc) sz):=by rw [← ehd];exact Hlz
 have Hints:Hid (IntsAt w (some ⟨r,0,none⟩) sz):=by
  have:=Hrow.out
  rw [← hm] at this
  exact this.ints
 have hm40:m≤39:=by omega
 obtain ⟨b0,o0,ea0,hb0,cs0⟩:=Hints.out 0 (by omega)
 cases ea0
 have Hs0:Hid (w.cell? ⟨r,0,none⟩=some (.int .i64 (szAt sz 0))∧r<w.heap.size):=⟨by simpa [szAt] using cs0,hb0⟩
 have Hw0:Hid (∀ y,Bel w y→FaAt y B f (.slice (some ⟨g,0,none⟩) n cap)∧FwG base (.slice (some ⟨g,0,none⟩) n cap) rs ls y∧FwsAt y (some ⟨g,0,none⟩) ls):=fun y q=>by
  have h:=hG.out.below q
  have h2:=h.done.at
  rw [Hn.out] at h
  exact ⟨hbx.out.below q,h,h2⟩
 generalize szAt sz 0=s0 at He KW hsz Hs0
 obtain ⟨k1,k2,k3,k4,k5⟩:=KW
 have HT:Hid (ee≤1125899906842624→sv=(if ee≤1125899906842624 then sv else ⟨f,ls⟩)∧decide (ee≤1125899906842624)=true):=fun h=>⟨(if_pos h).symm,decide_eq_true h⟩
 have HF:Hid (¬ ee≤1125899906842624→⟨f,ls⟩=(if ee≤1125899906842624 then sv else (⟨f,ls⟩:Fs))∧decide (ee≤1125899906842624)=false):=fun h=>⟨(if_neg h).symm,decide_eq_false h⟩
 generalize (if ee≤1125899906842624 then sv else (⟨f,ls⟩:Fs))=Z at HT HF ⊢
 generalize decide (ee≤1125899906842624)=bb at HT HF ⊢
 have B2':Hid _:=B2
 have Hcw:Hid (w.cell? ⟨g,i*3,none⟩=some (.int .i64 wt)∧w.cell? ⟨g,i*3+2,none⟩=some (.slice (some ⟨r,0,none⟩) (m+1) rc)):=⟨Hc.out.1,by rw [← ehd];exact Hc.out.2.2.1⟩
 clear B2 Hlz hm cs0 hb0 hn8 hx
 have cB1:w.cell? ⟨B,11,none⟩=some (.slice (some ⟨g,0,none⟩) n cap):=hbx.out.c1
 have cB0:w.cell? ⟨B,10,none⟩=some (.int .i64 f):=hbx.out.c0
 have hi':(i:Int)<(n:Int):=by omega
 generalize hq:2520/wt=qq at k2 k3 k4 k5 He
 generalize hcq:s0*qq=cc at k4 k5 He
 have k4':IntKind.i64.wrap (s0*qq)=cc:=by rw [hcq];exact k4
 have k2':IntKind.i64.wrap (Int.tdiv 2520 wt)=qq:=by rw [k2];exact k3
 have Hee:Hid (ee=bg+cc):=He.out
 have k5':IntKind.i64.wrap (bg+cc)=ee:=by rw [Hee.out];exact k5
 clear hq hcq k4 k5 He
 go_enter Tryz.func79,Tryz.ntmps79
 have hBl:B<w.heap.size:=hbx.out.lt
 go_wp2_with fail
 refine (B2'.out _ (Hw0.out w (Below.refl _ _)).2.2).mono ?_
 rintro e w1 ⟨rfl,q1⟩
 have Q1:Hid (Bel w w1):=q1
 clear q1 cB1 cB0 B2'
 go_upto_region 3 with fail
 have d0:∀ p:BelW w1.heap.size w1,p.w'.cell? ⟨g,i*3,none⟩=some (.int .i64 wt):=fun p=>by rw [(Q1.out.trans (p.h.mono Q1.out.size)).cell (p:=⟨g,i*3,none⟩) hgl];exact Hcw.out.1
 have d1:∀ p:BelW w1.heap.size w1,p.w'.cell? ⟨g,i*3+2,none⟩=some (.slice (some ⟨r,0,none⟩) (m+1) rc):=fun p=>by rw [(Q1.out.trans (p.h.mono Q1.out.size)).cell (p:=⟨g,i*3+2,none⟩) hgl];exact Hcw.out.2
 have d2:∀ p:BelW w1.heap.size w1,p.w'.cell? ⟨r,0,none⟩=some (.int .i64 s0):=fun p=>by rw [(Q1.out.trans (p.h.mono Q1.out.size)).cell (p:=⟨r,0,none⟩) Hs0.out.2];exact Hs0.out.1
 haveI:Nonempty (BelW w1.heap.size w1):=⟨⟨w1,Below.refl _ _⟩⟩
 refine rgb w1.heap.size (by kernel_rfl) (by kernel_rfl) ?_
 repeat (go_big_quiet_step (fail))
 refine wpQuiet_nil ?_
 intro w2 hx2
 have Q2:Hid (Bel w w2):=Q1.out.trans ((BelW.out hx2).mono Q1.out.size)
 clear hx2 d0 d1 d2 Q1 k1 k2 k3 k2' k4' k5' this
 have W2:Hid _:=Hw0.out w2 Q2.out
 by_cases hle:ee≤1125899906842624
 case neg =>
  obtain ⟨eZ,eb⟩:=HF.out (by omega)
  have hle':1125899906842624<ee:=by omega
  subst eZ eb
  clear hle
  go_wp2
  go_ret
  exact ⟨rfl,⟨rs,W2.out.2.1,hof.out,fun _ _ _ hk=>.inl hk⟩,fun cs t hb=>by rw [arr_same (show cs[10]? = some (.int .i64 f) by have:=hbx.out.c0;unfold World.cell? at this;unfold Boxed at hb;simp only [hb] at this;exact this)];exact hb.below hb.under Q2.out,FrG.of Q2.out⟩
 obtain ⟨eZ,eb⟩:=HT.out (by omega)
 subst eZ eb
 have hle':¬ 1125899906842624<ee:=by omega
 clear hle HT HF
 have hgB:g≠B:=fun e=>hof.out.outer (by rw [← e];rfl)
 have cB0:w2.cell? ⟨B,10,none⟩=some (.int .i64 f):=W2.out.1.c0
 have zB0:=W2.out.1.ice
 have G2:FwG base (.slice (some ⟨g,0,none⟩) ls.length cap) rs ls w2:=by rw [Hn.out];exact W2.out.2.1
 have G3:FwG base (.slice (some ⟨g,0,none⟩) ls.length cap) rs ls (w2.setCell ⟨B,10,none⟩ (.int .i64 bg)):=G2.keepO (by rw [Hn.out];exact hof.out) fun k hk _=>Below.heap_setCell _ _ _ _ hk
 have bx3:∀ (cs:Array Value) (t:TypeId),Boxed w B cs t→Boxed (w2.setCell ⟨B,10,none⟩ (.int .i64 bg)) B (cs.setIfInBounds 10 (.int .i64 bg)) t:=fun cs t hb=>(hb.below hb.under Q2.out).put 10 _
 have hil:i<ls.length:=by rw [Hn.out];exact hi
 have C3:=G3.cells hil
 have cg1:=C3.2.1
 have zg1:=C3.2.2.2 (i*3+1)
 have G4:=G3.finish hil ee
 rw [Hx.out] at G4 cg1
 simp only at G4 cg1
 have F4:FrG B (.slice (some ⟨g,0,none⟩) n cap) w ((w2.setCell ⟨B,10,none⟩ (.int .i64 bg)).setCell ⟨g,i*3+1,none⟩ (.int .i64 ee)):=((FrG.of Q2.out).set (.inr rfl) _).set (.inl rfl) _
 have H4:Hid (FwG base (.slice (some ⟨g,0,none⟩) ls.length cap) (rs.set i ⟨(fwrAt rs i).weight,ee,(fwrAt rs i).hd⟩) (ls.set i ⟨wt,ee,sz⟩) ((w2.setCell ⟨B,10,none⟩ (.int .i64 bg)).setCell ⟨g,i*3+1,none⟩ (.int .i64 ee))∧(∀ (cs:Array Value) (t:TypeId),Boxed w B cs t→Boxed ((w2.setCell ⟨B,10,none⟩ (.int .i64 bg)).setCell ⟨g,i*3+1,none⟩ (.int .i64 ee)) B (cs.setIfInBounds 10 (.int .i64 bg)) t)∧FrG B (.slice (some ⟨g,0,none⟩) n cap) w ((w2.setCell ⟨B,10,none⟩ (.int .i64 bg)).setCell ⟨g,i*3+1,none⟩ (.int .i64 ee))∧base≤((w2.setCell ⟨B,10,none⟩ (.int .i64 bg)).setCell ⟨g,i*3+1,none⟩ (.int .i64 ee)).heap.size) :=
  ⟨G4,fun cs t hb=>(bx3 cs t hb).far (fun e=>hgB e.symm) _ _,F4,Nat.le_trans hbb F4.bel.size⟩
 have hgl2:g<w2.heap.size:=Nat.lt_of_lt_of_le hgl Q2.out.size
 have hBl2:B<w2.heap.size:=W2.out.1.lt
 clear G2 G3 bx3 C3 G4 F4
 go_upto_region 8 with fail
 generalize (w2.setCell ⟨B,10,none⟩ (.int .i64 bg)).setCell ⟨g,i*3+1,none⟩ (.int .i64 ee)=w4 at H4 ⊢
 clear cB0 zB0 cg1 zg1 hgl2 hBl2 W2 Q2 hle'
 have hrl:i<rs.length:=by rw [hG.out.len];exact hil
 have ehd4:(fwrAt (rs.set i ⟨(fwrAt rs i).weight,ee,(fwrAt rs i).hd⟩) i).hd = .slice (some ⟨r,0,none⟩) (m+1) rc:=by rw [fwrAt_set hrl];exact ehd
 have Set:Hid (∀ u w6,IRow w4.heap.size w6 u (sz.drop 1)→Bel w4 w6→SvG B base (.slice (some ⟨g,0,none⟩) n cap) n rs sv w (w6.setCell ⟨g,i*3+2,none⟩ u)):=fun u w6 q1 q2=>by
  have h4:=H4.out.1
  have h5:FwG base (.slice (some ⟨g,0,none⟩) (ls.set i ⟨wt,ee,sz⟩).length cap) (rs.set i ⟨(fwrAt rs i).weight,ee,(fwrAt rs i).hd⟩) (ls.set i ⟨wt,ee,sz⟩) w4:=by rw [List.length_set];exact h4
  have h6:=h5.sizes (j:=i) (by rw [List.length_set];exact hil) (q1.mono H4.out.2.2.2) (fun k hk _=>q2.block k hk) (fun k hk=>.inr (q1.lt k hk).1)
  rw [List.length_set,fwAt_set hil] at h6
  simp only [List.set_set] at h6
  rw [Hsv.out]
  rw [Hn.out] at h6
  have hBw:B<w.heap.size:=hbx.out.lt
  have hw4:w.heap.size≤w4.heap.size:=H4.out.2.2.1.bel.size
  have hrl2:i<rs.length:=by rw [hG.out.len];exact hil
  have hown:∀ j,j<n→∀ k,(fwrAt (rs.set i ⟨(fwrAt (rs.set i ⟨(fwrAt rs i).weight,ee,(fwrAt rs i).hd⟩) i).weight,(fwrAt (rs.set i ⟨(fwrAt rs i).weight,ee,(fwrAt rs i).hd⟩) i).finish,u⟩) j).hd.ownBlock=some k→(fwrAt rs j).hd.ownBlock=some k∨w.heap.size≤k:=fun j hj k hk=>by
   rw [fwr_hd' hrl2] at hk
   split at hk
   ·have:=(q1.lt _ hk).1
    right;omega
   ·exact .inl hk
  refine ⟨⟨_,h6,⟨hof.out.outer,fun j hj hk=>?_⟩,hown⟩,fun cs t hb=>((H4.out.2.1 cs t hb).below (H4.out.2.1 cs t hb).under q2).far (fun e=>hgB e.symm) _ _,(H4.out.2.2.1.trans (FrG.of q2)).set (.inl rfl) _⟩
  rcases hown j hj B hk with h|h
  ·exact hof.out.row j hj h
  ·omega
 have C4:w4.cell? ⟨g,i*3+2,none⟩=some (.slice (some ⟨r,0,none⟩) (m+1) rc)∧w4.frozen? ⟨g,i*3+2,none⟩=false:=by
  have h4:=H4.out.1
  have h5:FwG base (.slice (some ⟨g,0,none⟩) (ls.set i ⟨wt,ee,sz⟩).length cap) (rs.set i ⟨(fwrAt rs i).weight,ee,(fwrAt rs i).hd⟩) (ls.set i ⟨wt,ee,sz⟩) w4:=by rw [List.length_set];exact h4
  have h6:=h5.cells (j:=i) (by rw [List.length_set];exact hil)
  rw [← ehd4]
  exact ⟨h6.2.2.1,h6.2.2.2 _⟩
 have hgl4:g<w4.heap.size:=by
  obtain ⟨g',cap',e',_,h'⟩:=H4.out.1.place (j:=i) (by rw [List.length_set];exact hil)
  have e2:=(Value.slice.inj e').1
  simp only [Option.some.injEq,Addr.mk.injEq] at e2
  rw [e2.1]
  exact h'
 have R4:Hid (IntsAt (w4.alloc (.cells #[] 2)) (some ⟨r,0,none⟩) sz):=by
  have h:=H4.out.1.row i (by rw [List.length_set];exact hil)
  rw [ehd4,fwAt_set hil,← Hm.out] at h
  exact (h.alloc _).ints
 have Hml:Hid ((sz.drop 1).length=m):=by show (sz.drop 1).length=m;rw [List.length_drop,Hm.out];rfl
 have f2:(w4.alloc (.cells #[] 2)).cell? ⟨g,i*3+2,none⟩=some (.slice (some ⟨r,0,none⟩) (m+1) rc):=by rw [World.cell?_alloc_past _ _ _ hgl4];exact C4.1
 have HC4:Hid (w4.cell? ⟨g,i*3+2,none⟩=some (.slice (some ⟨r,0,none⟩) (m+1) rc)∧w4.frozen? ⟨g,i*3+2,none⟩=false):=C4
 have hm1:(1:Int)≤(m:Int)+1:=by omega
 have hm2:(0:Int)≤(m:Int):=by omega
 have hb4:w4.heap.size≤(w4.alloc (.cells #[] 2)).heap.size:=by simp
 have e4:Hid (Bel w4 (w4.alloc (.cells #[] 2))):=(Below.refl _ _).alloc nlr _
 clear C4 hbe h2 hsz hw'
 by_cases hck:rc=1
 ·subst hck
  obtain rfl:m=0:=by omega
  have HT0:Hid (IntsAt (w4.alloc (.cells #[] 2)) (some ⟨r,0,none⟩) (sz.drop 1)):=by
   show IntsAt _ _ _
   rw [List.eq_nil_of_length_eq_zero Hml.out]
   intro k hk
   simp at hk
  go_wp2_with (refine int_row_app rfl (.tmp 44) (.tmp 49) rfl w4.heap.size (.slice (some ⟨w4.heap.size,0,none⟩) 0 0) [] (some ⟨r,0,none⟩) 0 0 (sz.drop 1) Hml.out rfl rfl (irow_built w4 w4.heap.size nlr) HT0.out (fun h=>by cases h) (by rw [Hml.out];simp) hb4 ?_;intro uv w6 q1 q2 q3 q4;have q5:IRow w4.heap.size w6 uv (sz.drop 1):=(by simpa using q1);have q6:Bel w4 w6:=e4.out.trans q2;obtain ⟨ux,uc,eu⟩:=q5.shape;rw [Hml.out] at eu;subst eu;have R6:Hid _:=Set.out _ w6 q5 q6;have x2:w6.cell? ⟨g,i*3+2,none⟩=some (.slice (some ⟨r,0,none⟩) (0+1) 1):=(by rw [q6.cell (p:=⟨g,i*3+2,none⟩) hgl4];exact HC4.out.1);have x3:w6.frozen? ⟨g,i*3+2,none⟩=false:=(by rw [ice_kept (q6.block g hgl4)];exact HC4.out.2);have x4:g<w6.heap.size:=Nat.lt_of_lt_of_le hgl4 q6.size;clear q1 q2 q3 q4 q5 q6)
  go_ret
  exact ⟨rfl,R6.out⟩
 ·have hck':(rc=1)=False:=by simp [hck]
  have HT:Hid (IntsAt (w4.alloc (.cells #[] 2)) (some ⟨r,1,none⟩) (sz.drop 1)):=R4.out.tail
  go_wp2_with (refine int_row_app rfl (.tmp 44) (.tmp 49) rfl w4.heap.size (.slice (some ⟨w4.heap.size,0,none⟩) 0 0) [] (some ⟨r,1,none⟩) m (rc-1) (sz.drop 1) Hml.out rfl rfl (irow_built w4 w4.heap.size nlr) HT.out (fun h=>by cases h) (by rw [Hml.out];simp;omega) hb4 ?_;intro uv w6 q1 q2 q3 q4;have q5:IRow w4.heap.size w6 uv (sz.drop 1):=(by simpa using q1);have q6:Bel w4 w6:=e4.out.trans q2;obtain ⟨ux,uc,eu⟩:=q5.shape;rw [Hml.out] at eu;subst eu;have R6:Hid _:=Set.out _ w6 q5 q6;have x2:w6.cell? ⟨g,i*3+2,none⟩=some (.slice (some ⟨r,0,none⟩) (m+1) rc):=(by rw [q6.cell (p:=⟨g,i*3+2,none⟩) hgl4];exact HC4.out.1);have x3:w6.frozen? ⟨g,i*3+2,none⟩=false:=(by rw [ice_kept (q6.block g hgl4)];exact HC4.out.2);have x4:g<w6.heap.size:=Nat.lt_of_lt_of_le hgl4 q6.size;clear q1 q2 q3 q4 q5 q6)
  go_ret
  exact ⟨rfl,R6.out⟩
end Go.Proofs.YtgebghkcikmfaaaGreatDoor
