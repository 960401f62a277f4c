import Derived.Test.YtgebghkcikmfaaaGreatDoorQP29FsServe
import Derived.Test.YtgebghkcikmfaaaGreatDoorQP41FsOwn
set_option maxHeartbeats 6400000
set_option maxRecDepth 100000
namespace Go.Proofs.YtgebghkcikmfaaaGreatDoor
open Go.RowKit
structure SvX (w:World) (f:Int) (a:Option Addr) (n c base B:Nat) (x:World):Prop where
 box:Boxed x w.heap.size #[.int .i64 f,.slice a n c] 48
 res:Boxed x (w.heap.size+1) #[.int .i64 0,.slice none 0 0] 48
 bel:Bel w x
 lo:w.heap.size+2≤base
 hi:w.heap.size+2≤B
theorem SvX.below {w:World} {f:Int} {a:Option Addr} {n c base B:Nat} {x x':World} (h:SvX w f a n c base B x) (g:Bel x x'):SvX w f a n c base B x' :=
 ⟨h.box.below h.box.under g,h.res.below h.res.under g,h.bel.trans (g.mono h.bel.size),h.lo,h.hi⟩
theorem SvX.fin {w:World} {f:Int} {a:Option Addr} {n c base B:Nat} {x x':World} {v:Value} {rs:List Fwr} {z:Fs} (h:SvX w f a n c base B x) (G:FwG base v rs z.flows x) (o:∀ k,k≠w.heap.size+1→x'.heap[k]? = x.heap[k]?) :
 FsIn w.heap.size x'.heap.size x' (.agg #[.int .i64 z.now,v]) z:=by
 have h1:=h.lo
 have G2:FwG base v rs z.flows x':=G.other fun k hk _=>o k (by omega)
 obtain ⟨p,q,e⟩:=fwrows_shape G2.outer
 subst e
 exact ⟨p,q,rfl,rs,G2.done.wide (by omega) nlr nlr⟩
theorem FwG.unlT {base:Nat} {v:Value} {rs:List Fwr} {l:List Fw} {x x':World} {B:Nat} {cs:Array Value} {T:TypeId} (h1:116≠T) (h2:2≠T) (h:FwG base v rs l x) (hb:Boxed x B cs T) (hx:∀ k,k≠B→x'.heap[k]? = x.heap[k]?):FwG base v rs l x':=by
 have far:∀ {b:Nat} {e:TypeId} {c n:Nat} {v:Value} {xs:List Value},e≠T→x.ownsRow b e c v n xs→∀ k,v.ownBlock=some k→k≠B:=fun he ho k hk e=>by
  subst e
  rcases ho.2 with ⟨rfl,_⟩|⟨g,cap,cur,rfl,_,hg,_⟩
  ·cases hk
  ·cases hk
   unfold Boxed at hb
   rw [hg] at hb
   simp only [Option.some.injEq,Obj.cells.injEq] at hb
   exact he hb.2.1
 exact ⟨fwrows_carry h.outer fun k hk _=>hx k (far h1 h.outer k hk),h.len,h.num,fun i hi=>fwrows_carry (h.row i hi) fun k hk _=>hx k (far h2 (h.row i hi) k hk),h.apart⟩
theorem FwG.base_mono {base b':Nat} {v:Value} {rs:List Fwr} {l:List Fw} {x:World} (h:FwG base v rs l x) (hb:b'≤base):FwG b' v rs l x :=
 ⟨⟨h.outer.1,h.outer.2.imp id fun ⟨g,cap,cur,h1,h2,h3⟩=>⟨g,cap,cur,h1,Nat.le_trans hb h2,h3⟩⟩,h.len,h.num,fun i hi=>(h.row i hi).mono hb,h.apart⟩
theorem FwG.unl {base:Nat} {v:Value} {rs:List Fwr} {l:List Fw} {x x':World} {B:Nat} {cs:Array Value} (h:FwG base v rs l x) (hb:Boxed x B cs 48) (hx:∀ k,k≠B→x'.heap[k]? = x.heap[k]?):FwG base v rs l x':=h.unlT (by decide) (by decide) hb hx
theorem box_ne {x:World} {A B:Nat} {cs ds:Array Value} {S T:TypeId} (h:Boxed x A cs S) (k:Boxed x B ds T) (hne:S≠T):A≠B:=fun e=>by
 unfold Boxed at h k
 rw [e,k] at h
 simp only [Option.some.injEq,Obj.cells.injEq] at h
 exact hne h.2.1.symm
theorem implServedOf (d:Fs) (a:Option Addr) (c b:Nat) (w:World) (hB:d.big≤1048576) (hok:d.ok=true) (hbl:b<d.flows.length) (hwb:d.waits b=true) (h:Hid (FwsAt w a d.flows)) :
 Calls Tryz.prog 109 #[.agg #[.int .i64 d.now,.slice a d.flows.length c],.int .i64 (b:Int)] w fun e w'=>(∃ v',e = .returned (.tuple #[v',.bool (decide (d.endOf b≤1125899906842624))])∧FsIn w.heap.size w'.heap.size w' v' (if d.endOf b≤1125899906842624 then d.serve b else d))∧Bel w w':=by
 have A3:=fun a c w h=>implOwnFair d a c w hB h
 have Hsv:d.serve b=⟨d.beg b,d.flows.set b ⟨(fwAt d.flows b).weight,d.endOf b,(fwAt d.flows b).sizes.drop 1⟩⟩:=rfl
 have Hen:d.endOf b=d.beg b+(fwAt d.flows b).cost∧d.beg b=max d.now (fwAt d.flows b).finish:=⟨rfl,rfl⟩
 have hfo:(fwAt d.flows b).ok=true:=Fs.ok_at hok hbl
 obtain ⟨hf0,hf1⟩:=(Fs.ok_iff.1 hok).1
 have h8:d.flows.length≤8:=(Fs.ok_iff.1 hok).2.1.2
 have hwb':0<(fwAt d.flows b).sizes.length:=of_decide_eq_true (show decide (0<(fwAt d.flows b).sizes.length)=true from hwb)
 clear hok hwb hB
 rw [Hsv]
 clear Hsv
 obtain ⟨en1,en2⟩:=Hen
 generalize d.endOf b=z at en1 ⊢
 generalize d.beg b=g at en1 en2 ⊢
 obtain ⟨f,ls⟩:=d
 simp only at A3 hfo hf0 hf1 hwb' hbl h8 en1 en2 h ⊢
 simp only [Fs.val] at A3
 have HK:Hid (FwsAt w a ls):=h
 obtain ⟨n,hn⟩:∃ n,ls.length=n:=⟨_,rfl⟩
 have Hn:Hid (ls.length=n):=hn
 have hbn:b<n:=by rw [← hn];exact hbl
 rw [hn] at A3 h8 ⊢
 have A3':Hid _:=A3
 clear A3 hn h
 have hb':(b:Int)<(n:Int):=by omega
 have hcost:=(Fs.cost_in hfo hwb').2.2
 have hfin:=(Fw.ok_iff.1 hfo).2.1
 obtain ⟨b0,off,ak,ck,ha,hb0,⟨k0,k1,k2⟩,hr,hcap,hnil⟩:=HK.out b hbl
 subst ha
 have Rd:Hid (∀ x,Bel w x→x.cell? ⟨b0,off+b*3,none⟩=some (.int .i64 (fwAt ls b).weight)∧x.cell? ⟨b0,off+b*3+1,none⟩=some (.int .i64 (fwAt ls b).finish)∧x.cell? ⟨b0,off+b*3+2,none⟩=some (.slice ak (fwAt ls b).sizes.length ck)∧IntsAt x ak (fwAt ls b).sizes):=fun x g=>⟨by rw [g.cell (p:=⟨b0,off+b*3,none⟩) hb0];exact k0,by rw [g.cell (p:=⟨b0,off+b*3+1,none⟩) hb0];exact k1,by rw [g.cell (p:=⟨b0,off+b*3+2,none⟩) hb0];exact k2,hr.below g⟩
 have hin:(fwAt ls b).sizes.length≤1048576:=by have:=(Fw.ok_iff.1 hfo).2.2.1;omega
 have D:=fun w=>implPayerOf (fwAt ls b) ak ck w
 have E:=fun w=>implBeg (fwAt ls b) ak ck f w
 have PR:=fun w h=>implPrice (fwAt ls b) ak ck w hfo hwb' h
 have RS:=fun w h=>implRest ak ck (fwAt ls b).sizes w hwb' hin hcap h
 have Sh:Hid (∀ {q:Nat} {w:World} {v:Value},IRow q w v ((fwAt ls b).sizes.drop 1)→∃ p c,v = .slice p ((fwAt ls b).sizes.length-1) c):=fun h=>by
  obtain ⟨p,q,e⟩:=IRow.shape h
  exact ⟨p,q,by rw [e,List.length_drop]⟩
 rw [← en2] at E
 have hbg0:0≤g∧g≤1125899906842624:=by omega
 generalize (fwAt ls b).cost=co at PR hcost en1
 have Hset:Hid (ls.set b ⟨(fwAt ls b).weight,z,(fwAt ls b).sizes.drop 1⟩=ls.set b ⟨(fwAt ls b).weight,z,(fwAt ls b).sizes.drop 1⟩):=rfl
 generalize hQ:fwAt ls b=q at Rd D E PR RS Sh hfo hwb' Hset ⊢
 obtain ⟨t,uf,fl⟩:=q
 simp only [Fw.val,Fw.pay] at Rd D E PR RS Sh hwb' Hset ⊢
 generalize fl.length=m at Rd D E PR RS Sh hwb'
 have D':Hid _:=D
 have E':Hid _:=E
 have PR':Hid _:=PR
 have RS':Hid _:=RS
 obtain ⟨g0,g1⟩:=hbg0
 obtain ⟨co0,co1⟩:=hcost
 have kw:IntKind.i64.wrap (g+co)=z:=by rw [IntKind.wrap_i64];omega
 have kz:Hid (g+co=z):=en1.symm
 have kz0:0≤z:=by omega
 have kz1:z≤1125899911882624:=by omega
 clear D E PR RS Hset hr hcap hnil k0 k1 k2 hin hfo hfin en1 en2 hwb' hQ hb0 hf0 hf1 h8 co0 co1
 have Hno:Hid (1125899906842624<z→decide (z≤1125899906842624)=false∧(if z≤1125899906842624 then (⟨g,ls.set b ⟨t,z,fl.drop 1⟩⟩:Fs) else ⟨f,ls⟩)=⟨f,ls⟩):=fun h=>⟨decide_eq_false (by omega),if_neg (by omega)⟩
 have Hyes:Hid (¬ 1125899906842624<z→decide (z≤1125899906842624)=true∧(if z≤1125899906842624 then (⟨g,ls.set b ⟨t,z,fl.drop 1⟩⟩:Fs) else ⟨f,ls⟩)=⟨g,ls.set b ⟨t,z,fl.drop 1⟩⟩):=fun h=>⟨decide_eq_true (by omega),if_pos (by omega)⟩
 generalize decide (z≤1125899906842624)=dl at Hno Hyes ⊢
 generalize (if z≤1125899906842624 then (⟨g,ls.set b ⟨t,z,fl.drop 1⟩⟩:Fs) else ⟨f,ls⟩)=R at Hno Hyes ⊢
 obtain ⟨w1,hw1⟩:∃ W,W=(w.alloc (.cells #[.int .i64 f,.slice (some ⟨b0,off,none⟩) n c] 48)).alloc (.cells #[.int .i64 0,.slice none 0 0] 48):=⟨_,rfl⟩
 have X1:Hid (Boxed w1 w.heap.size #[.int .i64 f,.slice (some ⟨b0,off,none⟩) n c] 48∧Boxed w1 (w.heap.size+1) #[.int .i64 0,.slice none 0 0] 48∧Bel w w1):=by
  rw [hw1]
  refine ⟨(Boxed.new w _ _).more _,?_,((Below.refl _ _).alloc nlr _).alloc (by simp) _⟩
  have:=Boxed.new (w.alloc (.cells #[.int .i64 f,.slice (some ⟨b0,off,none⟩) n c] 48)) #[.int .i64 0,.slice none 0 0] 48
  simpa using this
 have HW:Hid (w1=_):=hw1
 clear hw1
 go_enter Tryz.func109,Tryz.ntmps109
 go_upto_region 1 with fail
 rw [← HW.out]
 clear HW
 go_cut [6,7] (fun s1 s2 wc=>Hid (∃ B C base vx vc rs,s1 = .pointer (some ⟨B,0,none⟩)∧s2 = .pointer (some ⟨C,0,none⟩)∧(SvX w f (some ⟨b0,off,none⟩) n c base B wc∧FwG base (.slice vx n vc) rs ls wc∧Boxed wc B #[.int .i64 f,.slice vx n vc] 48)∧Boxed wc C #[.slice ak m ck,.int .i64 t,.int .i64 uf] 211∧(B≠C∧w.heap.size+2≤C)))
 case first =>
  have W1:Hid (∀ x,Bel w1 x→Boxed x w.heap.size #[.int .i64 f,.slice (some ⟨b0,off,none⟩) n c] 48∧Boxed x (w.heap.size+1) #[.int .i64 0,.slice none 0 0] 48∧Bel w x∧FwsAt x (some ⟨b0,off,none⟩) ls):=fun x g=>by
   have hb:=X1.out.2.2.trans (g.mono X1.out.2.2.size)
   exact ⟨X1.out.1.below X1.out.1.under g,X1.out.2.1.below X1.out.2.1.under g,hb,HK.out.below hb⟩
  have hsz:w.heap.size+2≤w1.heap.size:=X1.out.2.1.under
  go_wp2_with fail
  refine region_lists (G:=Nat×Nat) (by kernel_rfl) (by kernel_rfl) (by kernel_rfl) (fun i=>if i=1 then 10 else if i=7 then 11 else 99) (fun (L:Nat→Bool) (y:Nat×Nat) (x:World)=>Bel w1 x∧(L 8=true→L 10=false→Boxed x y.1 #[.int .i64 0,.slice none 0 0] 48)∧(L 9=true→L 11=false→Boxed x y.2 #[.slice none 0 0,.int .i64 0,.int .i64 0] 211)) (fun i (y:Nat×Nat) x (y':Nat×Nat) x'=>(i≠8→y'.1=y.1)∧(i≠9→y'.2=y.2)∧(i≠10→i≠11→Bel x x')∧(i=10→(∃ cs,Boxed x y.1 cs 48)∧∀ k,k≠y.1→x'.heap[k]? = x.heap[k]?)∧(i=11→(∃ cs,Boxed x y.2 cs 211)∧∀ k,k≠y.2→x'.heap[k]? = x.heap[k]?)) (fun i y x u=>([fun _ _ u=>u = .agg #[.int .i64 f,.slice (some ⟨b0,off,none⟩) n c],fun _ x u=>∃ vx vc rs,u = .agg #[.int .i64 f,.slice vx n vc]∧FwG (w1.heap.size+2) (.slice vx n vc) rs ls x,fun _ _ u=>u = .pointer (some ⟨w.heap.size,1,none⟩),fun _ _ u=>u = .slice (some ⟨b0,off,none⟩) n c,fun _ _ u=>u = .int .i64 (b:Int),fun _ _ u=>u = .pointer (some ⟨b0,off+b*3,none⟩),fun _ _ u=>u = .agg #[.int .i64 t,.int .i64 uf,.slice ak m ck],fun _ _ u=>u = .agg #[.slice ak m ck,.int .i64 t,.int .i64 uf],fun y _ u=>u = .pointer (some ⟨y.1,0,none⟩)∧w1.heap.size≤y.1,fun y _ u=>u = .pointer (some ⟨y.2,0,none⟩)∧w1.heap.size≤y.2,fun y x _=>w1.heap.size≤y.1∧∃ vx vc rs,Boxed x y.1 #[.int .i64 f,.slice vx n vc] 48∧FwG (w1.heap.size+2) (.slice vx n vc) rs ls x,fun y x _=>w1.heap.size≤y.2∧Boxed x y.2 #[.slice ak m ck,.int .i64 t,.int .i64 uf] 211]:List (Nat×Nat→World→Value→Prop)).getD i (fun _ _ _=>True) y x u) ?hR (0,0) ?h0 ?step ?last
  case hR =>
   intro i j y y' x x' u hi hj hne hu h1 h2 hp hr
   have hi':i<12:=hi
   have hj':j<12:=hj
   have hcases:j=0∨j=1∨j=2∨j=3∨j=4∨j=5∨j=6∨j=7∨j=8∨j=9∨j=10∨j=11:=by omega
   rcases hcases with rfl|rfl|rfl|rfl|rfl|rfl|rfl|rfl|rfl|rfl|rfl|rfl
   ·exact hp
   ·obtain ⟨vx,vc,rs,e,g⟩:=hp
    by_cases h11:i=11
    ·obtain ⟨⟨cs,hbx⟩,ho⟩:=hr.2.2.2.2 h11
     exact ⟨vx,vc,rs,e,g.unlT (by decide) (by decide) hbx ho⟩
    ·exact ⟨vx,vc,rs,e,g.below (hr.2.2.1 (fun e=>hu e.symm) h11)⟩
   ·exact hp
   ·exact hp
   ·exact hp
   ·exact hp
   ·exact hp
   ·exact hp
   ·obtain ⟨y1,y2⟩:=y
    obtain ⟨z1,z2⟩:=y'
    obtain rfl:z1=y1:=hr.1 hne
    exact hp
   ·obtain ⟨y1,y2⟩:=y
    obtain ⟨z1,z2⟩:=y'
    obtain rfl:z2=y2:=hr.2.1 hne
    exact hp
   ·obtain ⟨e,vx,vc,rs,g1,g2⟩:=hp
    have n8:i≠8:=by rintro rfl;exact absurd h1 (by decide +kernel)
    obtain ⟨y1,y2⟩:=y
    obtain ⟨z1,z2⟩:=y'
    obtain rfl:z1=y1:=hr.1 n8
    by_cases h11:i=11
    ·obtain ⟨⟨cs,hbx⟩,ho⟩:=hr.2.2.2.2 h11
     exact ⟨e,vx,vc,rs,(ho _ (box_ne g1 hbx (by decide))).trans g1,g2.unlT (by decide) (by decide) hbx ho⟩
    ·have b:=hr.2.2.1 hne h11
     exact ⟨e,vx,vc,rs,g1.below g1.under b,g2.below b⟩
   ·obtain ⟨e,g1⟩:=hp
    have n9:i≠9:=by rintro rfl;exact absurd h1 (by decide +kernel)
    obtain ⟨y1,y2⟩:=y
    obtain ⟨z1,z2⟩:=y'
    obtain rfl:z2=y2:=hr.2.1 n9
    by_cases h10:i=10
    ·obtain ⟨⟨cs,hbx⟩,ho⟩:=hr.2.2.2.1 h10
     exact ⟨e,(ho _ (box_ne g1 hbx (by decide))).trans g1⟩
    ·exact ⟨e,g1.below g1.under (hr.2.2.1 h10 hne)⟩
  case h0=>exact ⟨(Below.refl _ _).drew,fun h=>by simp at h,fun h=>by simp at h⟩
  case step =>
   intro i o hi ho L a' y x hLi hwt hre hkp hI hp
   obtain ⟨hB,hZ,hY⟩:=hI
   obtain ⟨b1,b2,b3,b4⟩:=W1.out x hB
   have s2:a'.tmps[2]?.getD undef = .pointer (some ⟨w.heap.size,0,none⟩):=by have h2:a'.tmps.getD 2 undef = .pointer (some ⟨w.heap.size,0,none⟩):=hkp.slot 2 (by kernel_rfl);simpa using h2
   have s1:a'.tmps[1]?.getD undef = .int .i64 (b:Int):=by have h2:a'.tmps.getD 1 undef = .int .i64 (b:Int):=hkp.slot 1 (by kernel_rfl);simpa using h2
   have hi':i<12:=hi
   have hcases:i=0∨i=1∨i=2∨i=3∨i=4∨i=5∨i=6∨i=7∨i=8∨i=9∨i=10∨i=11:=by omega
   rcases hcases with rfl|rfl|rfl|rfl|rfl|rfl|rfl|rfl|rfl|rfl|rfl|rfl
   ·cases ho
    exact ⟨wno rfl,wp_load_row 48 (.tmp 2) rfl (w.heap.size) (by simpa [Act.eval] using s2) _ _ _ _ b1 Tryz.underlying48 rfl (by kernel_rfl) ⟨_,y,rfl,⟨fun _=>rfl,fun _=>rfl,fun _ _=>Below.refl _ _,fun h=>absurd h (by decide),fun h=>absurd h (by decide)⟩,⟨hB,fun h1 h2=>hZ (by simpa using h1) (by simpa using h2),fun h1 h2=>hY (by simpa using h1) (by simpa using h2)⟩,fun u hu=>hu (fun h=>by cases h)⟩⟩
   ·cases ho
    have q0:a'.tmps[10]?.getD undef = .agg #[.int .i64 f,.slice (some ⟨b0,off,none⟩) n c]:=by have h2:a'.tmps.getD 10 undef = .agg #[.int .i64 f,.slice (some ⟨b0,off,none⟩) n c]:=hp 0 (od (by kernel_rfl)) (.inr (by decide));simpa using h2
    refine ⟨wno rfl,op_callR (f:=101) (args:=#[.agg #[.int .i64 f,.slice (some ⟨b0,off,none⟩) n c]]) (by simp [execOp,resolve,Deferred.ofValue,invoke,Act.eval,q0]) (A3'.out _ c x b4) ?_⟩
    rintro e x1 ⟨⟨vv,rs,rfl,hG⟩,q⟩
    obtain ⟨vx,vc,ev⟩:=fwrows_shape hG.outer
    rw [Hn.out] at ev
    subst ev
    have hG':=hG.base_mono (b':=w1.heap.size+2) (by have:=hB.size;omega)
    exact ⟨_,rfl,_,y,rfl,⟨fun _=>rfl,fun _=>rfl,fun _ _=>q,fun h=>absurd h (by decide),fun h=>absurd h (by decide)⟩,⟨hB.trans (q.mono hB.size),fun h1 h2=>(hZ (by simpa using h1) (by simpa using h2)).below (hZ (by simpa using h1) (by simpa using h2)).under q,fun h1 h2=>(hY (by simpa using h1) (by simpa using h2)).below (hY (by simpa using h1) (by simpa using h2)).under q⟩,fun u hu=>⟨vx,vc,rs,hu (fun h=>by cases h),hG'⟩⟩
   ·cases ho
    refine ⟨wno rfl,Oper.wp_mono (K:=fun a'' w''=>a''=a'.put (some 12) (.pointer (some ⟨w.heap.size,1,none⟩))∧w''=x) ?_ ?_⟩
    ·rintro _ _ ⟨rfl,rfl⟩
     exact ⟨_,y,rfl,⟨fun _=>rfl,fun _=>rfl,fun _ _=>Below.refl _ _,fun h=>absurd h (by decide),fun h=>absurd h (by decide)⟩,⟨hB,fun h1 h2=>hZ (by simpa using h1) (by simpa using h2),fun h1 h2=>hY (by simpa using h1) (by simpa using h2)⟩,fun u hu=>hu (fun h=>by cases h)⟩
    ·unfold Oper.wp
     simp [go_sem,s2]
   ·cases ho
    have ca:x.cell? ⟨w.heap.size,1,none⟩=some (.slice (some ⟨b0,off,none⟩) n c):=b1.cell 1 rfl
    have q2:a'.tmps[12]?.getD undef = .pointer (some ⟨w.heap.size,1,none⟩):=by have h2:a'.tmps.getD 12 undef = .pointer (some ⟨w.heap.size,1,none⟩):=hp 2 (od (by kernel_rfl)) (.inr (by decide));simpa using h2
    refine ⟨wno rfl,Oper.wp_mono (K:=fun a'' w''=>a''=a'.put (some 13) (.slice (some ⟨b0,off,none⟩) n c)∧w''=x) ?_ ?_⟩
    ·rintro _ _ ⟨rfl,rfl⟩
     exact ⟨_,y,rfl,⟨fun _=>rfl,fun _=>rfl,fun _ _=>Below.refl _ _,fun h=>absurd h (by decide),fun h=>absurd h (by decide)⟩,⟨hB,fun h1 h2=>hZ (by simpa using h1) (by simpa using h2),fun h1 h2=>hY (by simpa using h1) (by simpa using h2)⟩,fun u hu=>hu (fun h=>by cases h)⟩
    ·unfold Oper.wp
     simp [go_sem,q2,ca]
   ·cases ho
    refine ⟨wno rfl,Oper.wp_mono (K:=fun a'' w''=>a''=a'.put (some 14) (.int .i64 (b:Int))∧w''=x) ?_ ?_⟩
    ·rintro _ _ ⟨rfl,rfl⟩
     exact ⟨_,y,rfl,⟨fun _=>rfl,fun _=>rfl,fun _ _=>Below.refl _ _,fun h=>absurd h (by decide),fun h=>absurd h (by decide)⟩,⟨hB,fun h1 h2=>hZ (by simpa using h1) (by simpa using h2),fun h1 h2=>hY (by simpa using h1) (by simpa using h2)⟩,fun u hu=>hu (fun h=>by cases h)⟩
    ·unfold Oper.wp
     simp [go_sem,s1]
   ·cases ho
    have q3:a'.tmps[13]?.getD undef = .slice (some ⟨b0,off,none⟩) n c:=by have h2:a'.tmps.getD 13 undef = .slice (some ⟨b0,off,none⟩) n c:=hp 3 (od (by kernel_rfl)) (.inr (by decide));simpa using h2
    have q4:a'.tmps[14]?.getD undef = .int .i64 (b:Int):=by have h2:a'.tmps.getD 14 undef = .int .i64 (b:Int):=hp 4 (od (by kernel_rfl)) (.inr (by decide));simpa using h2
    refine ⟨wno rfl,Oper.wp_mono (K:=fun a'' w''=>a''=a'.put (some 15) (.pointer (some ⟨b0,off+b*3,none⟩))∧w''=x) ?_ ?_⟩
    ·rintro _ _ ⟨rfl,rfl⟩
     exact ⟨_,y,rfl,⟨fun _=>rfl,fun _=>rfl,fun _ _=>Below.refl _ _,fun h=>absurd h (by decide),fun h=>absurd h (by decide)⟩,⟨hB,fun h1 h2=>hZ (by simpa using h1) (by simpa using h2),fun h1 h2=>hY (by simpa using h1) (by simpa using h2)⟩,fun u hu=>hu (fun h=>by cases h)⟩
    ·unfold Oper.wp
     simp [go_sem,q3,q4,hb']
   ·cases ho
    obtain ⟨r0,r1,r2,-⟩:=Rd.out x b3
    have q5:a'.tmps[15]?.getD undef = .pointer (some ⟨b0,off+b*3,none⟩):=by have h2:a'.tmps.getD 15 undef = .pointer (some ⟨b0,off+b*3,none⟩):=hp 5 (od (by kernel_rfl)) (.inr (by decide));simpa using h2
    refine ⟨wno rfl,Oper.wp_mono (K:=fun a'' w''=>a''=a'.put (some 16) (.agg #[.int .i64 t,.int .i64 uf,.slice ak m ck])∧w''=x) ?_ ?_⟩
    ·rintro _ _ ⟨rfl,rfl⟩
     exact ⟨_,y,rfl,⟨fun _=>rfl,fun _=>rfl,fun _ _=>Below.refl _ _,fun h=>absurd h (by decide),fun h=>absurd h (by decide)⟩,⟨hB,fun h1 h2=>hZ (by simpa using h1) (by simpa using h2),fun h1 h2=>hY (by simpa using h1) (by simpa using h2)⟩,fun u hu=>hu (fun h=>by cases h)⟩
    ·unfold Oper.wp
     simp [go_sem,q5,r0,r1,r2]
   ·cases ho
    have q6:a'.tmps[16]?.getD undef = .agg #[.int .i64 t,.int .i64 uf,.slice ak m ck]:=by have h2:a'.tmps.getD 16 undef = .agg #[.int .i64 t,.int .i64 uf,.slice ak m ck]:=hp 6 (od (by kernel_rfl)) (.inr (by decide));simpa using h2
    refine ⟨wno rfl,op_callR (f:=170) (args:=#[.agg #[.int .i64 t,.int .i64 uf,.slice ak m ck]]) (by simp [execOp,resolve,Deferred.ofValue,invoke,Act.eval,q6]) (D'.out x) ?_⟩
    rintro e x1 ⟨rfl,q⟩
    exact ⟨_,rfl,_,y,rfl,⟨fun _=>rfl,fun _=>rfl,fun _ _=>q,fun h=>absurd h (by decide),fun h=>absurd h (by decide)⟩,⟨hB.trans (q.mono hB.size),fun h1 h2=>(hZ (by simpa using h1) (by simpa using h2)).below (hZ (by simpa using h1) (by simpa using h2)).under q,fun h1 h2=>(hY (by simpa using h1) (by simpa using h2)).below (hY (by simpa using h1) (by simpa using h2)).under q⟩,fun u hu=>hu (fun h=>by cases h)⟩
   ·cases ho
    have al:Bel x (x.alloc (.cells #[.int .i64 0,.slice none 0 0] 48)):=(Below.refl _ _).alloc nlr _
    refine ⟨wno rfl,op_allocZ (z:=.agg #[.int .i64 0,.slice none 0 0]) rfl (by kernel_rfl) ⟨_,(x.heap.size,y.2),rfl,⟨fun h=>absurd rfl h,fun _=>rfl,fun _ _=>al,fun h=>absurd h (by decide),fun h=>absurd h (by decide)⟩,⟨hB.alloc hB.size _,fun _ _=>Boxed.new _ _ _,fun h1 h2=>(hY (by simpa using h1) (by simpa using h2)).below (hY (by simpa using h1) (by simpa using h2)).under al⟩,fun u hu=>⟨hu (fun h=>by cases h),hB.size⟩⟩⟩
   ·cases ho
    have al:Bel x (x.alloc (.cells #[.slice none 0 0,.int .i64 0,.int .i64 0] 211)):=(Below.refl _ _).alloc nlr _
    refine ⟨wno rfl,op_allocZ (z:=.agg #[.slice none 0 0,.int .i64 0,.int .i64 0]) rfl (by kernel_rfl) ⟨_,(y.1,x.heap.size),rfl,⟨fun _=>rfl,fun h=>absurd rfl h,fun _ _=>al,fun h=>absurd h (by decide),fun h=>absurd h (by decide)⟩,⟨hB.alloc hB.size _,fun h1 h2=>(hZ (by simpa using h1) (by simpa using h2)).below (hZ (by simpa using h1) (by simpa using h2)).under al,fun _ _=>Boxed.new _ _ _⟩,fun u hu=>⟨hu (fun h=>by cases h),hB.size⟩⟩⟩
   ·cases ho
    obtain ⟨e4,ly⟩:a'.tmps.getD 6 undef=(.pointer (some ⟨y.1,0,none⟩))∧w1.heap.size≤y.1:=hp 8 (od (by kernel_rfl)) (.inr (by decide))
    obtain ⟨vx,vc,rs,e1,hG⟩:∃ vx vc rs,a'.tmps.getD 11 undef = .agg #[.int .i64 f,.slice vx n vc]∧FwG (w1.heap.size+2) (.slice vx n vc) rs ls x:=hp 1 (od (by kernel_rfl)) (.inl rfl)
    have hz:=hZ (hwt 8 (od (by kernel_rfl))) hLi
    refine ⟨wno rfl,wp_store_row 48 (.tmp 6) (.tmp 11) rfl y.1 #[.int .i64 f,.slice vx n vc] (by simpa [Act.eval] using e4) (by simpa [Act.eval] using e1) _ _ hz (by kernel_rfl) rfl (by simp [Value.oneCell']) ⟨undef,y,rfl,⟨fun _=>rfl,fun _=>rfl,fun h=>absurd rfl h,fun _=>⟨⟨_,hz⟩,fun k hk=>setRow_other _ _ _ _ hk⟩,fun h=>absurd h (by decide)⟩,⟨below_setRow hB ly _,fun _ h5=>by simp at h5,fun h1 h2=>?_⟩,fun _ _=>⟨ly,vx,vc,rs,setRow_heap _ _ _ _ _ _ hz,hG.unl hz (fun k hk=>setRow_other _ _ _ _ hk)⟩⟩⟩
    have hy:=hY (by simpa using h1) (by simpa using h2)
    exact (setRow_other _ _ _ _ (box_ne hy hz (by decide))).trans hy
   ·cases ho
    obtain ⟨e4,ly⟩:a'.tmps.getD 7 undef=(.pointer (some ⟨y.2,0,none⟩))∧w1.heap.size≤y.2:=hp 9 (od (by kernel_rfl)) (.inr (by decide))
    have e1:a'.tmps.getD 17 undef = .agg #[.slice ak m ck,.int .i64 t,.int .i64 uf]:=hp 7 (od (by kernel_rfl)) (.inl rfl)
    have hz:=hY (hwt 9 (od (by kernel_rfl))) hLi
    refine ⟨wno rfl,wp_store_row 211 (.tmp 7) (.tmp 17) rfl y.2 #[.slice ak m ck,.int .i64 t,.int .i64 uf] (by simpa [Act.eval] using e4) (by simpa [Act.eval] using e1) _ _ hz (by kernel_rfl) rfl (by simp [Value.oneCell']) ⟨undef,y,rfl,⟨fun _=>rfl,fun _=>rfl,fun _ h=>absurd rfl h,fun h=>absurd h (by decide),fun _=>⟨⟨_,hz⟩,fun k hk=>setRow_other _ _ _ _ hk⟩⟩,⟨below_setRow hB ly _,fun h1 h2=>?_,fun _ h5=>by simp at h5⟩,fun _ _=>⟨ly,setRow_heap _ _ _ _ _ _ hz⟩⟩⟩
    have hy:=hZ (by simpa using h1) (by simpa using h2)
    exact (setRow_other _ _ _ _ (box_ne hy hz (by decide))).trans hy
  case last =>
  intro L a' y x hall hkp hI hp
  obtain ⟨e6,l6⟩:a'.tmps.getD 6 undef=(.pointer (some ⟨y.1,0,none⟩))∧w1.heap.size≤y.1:=hp 8 (by decide) (by decide)
  obtain ⟨e7,l7⟩:a'.tmps.getD 7 undef=(.pointer (some ⟨y.2,0,none⟩))∧w1.heap.size≤y.2:=hp 9 (by decide) (by decide)
  obtain ⟨-,vx,vc,rs,g1,g2⟩:w1.heap.size≤y.1∧∃ vx vc rs,Boxed x y.1 #[.int .i64 f,.slice vx n vc] 48∧FwG (w1.heap.size+2) (.slice vx n vc) rs ls x:=hp 10 (by decide) (by decide)
  obtain ⟨-,g3⟩:w1.heap.size≤y.2∧Boxed x y.2 #[.slice ak m ck,.int .i64 t,.int .i64 uf] 211:=hp 11 (by decide) (by decide)
  obtain ⟨b1,b2,b3,b4⟩:=W1.out x hI.1
  have Fin:Hid (∃ B C base vx vc rs,a'.tmps.getD 6 undef = .pointer (some ⟨B,0,none⟩)∧a'.tmps.getD 7 undef = .pointer (some ⟨C,0,none⟩)∧(SvX w f (some ⟨b0,off,none⟩) n c base B x∧FwG base (.slice vx n vc) rs ls x∧Boxed x B #[.int .i64 f,.slice vx n vc] 48)∧Boxed x C #[.slice ak m ck,.int .i64 t,.int .i64 uf] 211∧(B≠C∧w.heap.size+2≤C)):=⟨y.1,y.2,_,vx,vc,rs,e6,e7,⟨⟨b1,b2,b3,by omega,by omega⟩,g2,g1⟩,g3,box_ne g1 g3 (by decide),by omega⟩
  have ha:=hkp.pick [true,true,true,true,true,true,false,false,true,true,false,false,false,false,false,false,false,false,true,true,true,true,true,true,true,true,true,true,true,true,true,true,true,true,true,true,true,true,true,true,true,true,true] (by kernel_rfl)
  simp only [pickS] at ha
  clear hp hkp hI hall e6 e7 g1 g2 g3 b1 b2 b3 b4
  generalize a'.tmps.getD 6 undef=y6 at ha Fin
  generalize a'.tmps.getD 7 undef=y7 at ha Fin
  generalize a'.tmps.getD 10 undef=y10 at ha
  generalize a'.tmps.getD 11 undef=y11 at ha
  generalize a'.tmps.getD 12 undef=y12 at ha
  generalize a'.tmps.getD 13 undef=y13 at ha
  generalize a'.tmps.getD 14 undef=y14 at ha
  generalize a'.tmps.getD 15 undef=y15 at ha
  generalize a'.tmps.getD 16 undef=y16 at ha
  generalize a'.tmps.getD 17 undef=y17 at ha
  rw [ha]
  clear ha
  go_wp2_with fail
  go_meet
  exact Fin.out
 case rest =>
 obtain ⟨B,C,base,vx,vc,rs,e6,e7,X5⟩:=hcut.out
 subst e6 e7
 obtain ⟨w5,rfl⟩:∃ w5,w5=wc:=⟨_,rfl⟩
 have X5:Hid ((SvX w f (some ⟨b0,off,none⟩) n c base B w5∧FwG base (.slice vx n vc) rs ls w5∧Boxed w5 B #[.int .i64 f,.slice vx n vc] 48)∧Boxed w5 C #[.slice ak m ck,.int .i64 t,.int .i64 uf] 211∧(B≠C∧w.heap.size+2≤C)):=X5
 clear hcut A3' X1 D'
 have hbl:b<ls.length:=by rw [Hn.out];exact hbn
 have lift:Hid (∀ x x',((SvX w f (some ⟨b0,off,none⟩) n c base B x∧FwG base (.slice vx n vc) rs ls x∧Boxed x B #[.int .i64 f,.slice vx n vc] 48)∧Boxed x C #[.slice ak m ck,.int .i64 t,.int .i64 uf] 211∧(B≠C∧w.heap.size+2≤C))→Bel x x'→((SvX w f (some ⟨b0,off,none⟩) n c base B x'∧FwG base (.slice vx n vc) rs ls x'∧Boxed x' B #[.int .i64 f,.slice vx n vc] 48)∧Boxed x' C #[.slice ak m ck,.int .i64 t,.int .i64 uf] 211∧(B≠C∧w.heap.size+2≤C))):=fun x x' h q=>⟨⟨h.1.1.below q,h.1.2.1.below q,h.1.2.2.below h.1.2.2.under q⟩,h.2.1.below h.2.1.under q,h.2.2⟩
 have d0:w5.cell? ⟨C,0,none⟩=some (.slice ak m ck):=X5.out.2.1.cell 0 rfl
 have d1:w5.cell? ⟨C,1,none⟩=some (.int .i64 t):=X5.out.2.1.cell 1 rfl
 have d2:w5.cell? ⟨C,2,none⟩=some (.int .i64 uf):=X5.out.2.1.cell 2 rfl
 have d3:w5.cell? ⟨w.heap.size,0,none⟩=some (.int .i64 f):=X5.out.1.1.box.cell 0 rfl
 go_wp2_with fail
 refine (E'.out _).mono ?_
 rintro e w6 ⟨rfl,q⟩
 have X6:Hid _:=lift.out w5 w6 X5.out q
 clear q d0 d1 d2 d3 E' X5
 have d0:w6.cell? ⟨C,0,none⟩=some (.slice ak m ck):=X6.out.2.1.cell 0 rfl
 have d1:w6.cell? ⟨C,1,none⟩=some (.int .i64 t):=X6.out.2.1.cell 1 rfl
 have d2:w6.cell? ⟨C,2,none⟩=some (.int .i64 uf):=X6.out.2.1.cell 2 rfl
 go_wp2_with fail
 refine (PR'.out _ (Rd.out w6 X6.out.1.1.bel).2.2.2).mono ?_
 rintro e w7 ⟨rfl,q⟩
 have X7:Hid _:=lift.out w6 w7 X6.out q
 clear q d0 d1 d2 PR' X6
 by_cases hz:1125899906842624<z
 ·obtain ⟨rfl,rfl⟩:=Hno.out hz
  go_upto_region 5 with fail
  go_wp2_with (first|(refine wpList_load_row rfl 48 (.tmp 6) rfl B rfl _ _ _ _ X7.out.1.2.2 Tryz.underlying48 rfl (by kernel_rfl) ?_)|(refine wpList_store_row rfl 48 (.tmp 4) (.tmp 28) rfl (w.heap.size+1) #[.int .i64 f,.slice vx n vc] rfl rfl _ _ X7.out.1.1.res (by kernel_rfl) rfl (by simp [Value.oneCell']) ?_))
  exact bodyPost_ret (results_row_tmp Tryz.results109 _ _ (w.heap.size+1) _ #[.int .i64 f,.slice vx n vc] _ _ (.bool false) rfl rfl (setRow_heap _ (w.heap.size+1) _ _ _ _ X7.out.1.1.res) Tryz.underlying48 rfl (by kernel_rfl)) rfl ⟨⟨_,rfl,X7.out.1.1.fin (z:=⟨f,ls⟩) X7.out.1.2.1 (fun k hk=>setRow_other _ _ _ _ hk)⟩,below_setRow X7.out.1.1.bel (by omega) _⟩
 obtain ⟨rfl,rfl⟩:=Hyes.out (by first|exact hz|omega)
 clear Hno Hyes
 have hzd:decide (1125899906842624<z)=false:=decide_eq_false hz
 have dB:w7.cell? ⟨B,0,none⟩=some (.int .i64 f):=X7.out.1.2.2.cell 0 rfl
 have dI:=X7.out.1.2.2.ice 0
 have X8:Hid ((SvX w f (some ⟨b0,off,none⟩) n c base B (w7.setCell ⟨B,0,none⟩ (.int .i64 g))∧FwG base (.slice vx n vc) rs ls (w7.setCell ⟨B,0,none⟩ (.int .i64 g))∧Boxed (w7.setCell ⟨B,0,none⟩ (.int .i64 g)) B #[.int .i64 g,.slice vx n vc] 48)∧Boxed (w7.setCell ⟨B,0,none⟩ (.int .i64 g)) C #[.slice ak m ck,.int .i64 t,.int .i64 uf] 211∧(B≠C∧w.heap.size+2≤C)):=by
  have s:=X7.out.1.1
  have h1:=s.hi
  have h2:=X7.out.2.2
  have hp:=X7.out.1.2.2.put 0 (.int .i64 g)
  exact ⟨⟨⟨s.box.far (by omega) _ _,s.res.far (by omega) _ _,s.bel.setCell (by show w.heap.size≤B;omega) _,s.lo,s.hi⟩,X7.out.1.2.1.unl X7.out.1.2.2 (fun k hk=>Below.heap_setCell _ _ _ _ (by exact hk)),by simpa using hp⟩,X7.out.2.1.far (by omega) _ _,h2⟩
 go_upto_region 7 with fail
 generalize w7.setCell ⟨B,0,none⟩ (.int .i64 g)=w8 at X8 ⊢
 clear X7 dB dI lift
 obtain ⟨xg,xc,exv,xg1,xg2⟩:=X8.out.1.2.1.place (j:=b) hbl
 rw [Hn.out] at exv
 cases exv
 go_cut [] (fun wc=>Hid (∃ rs',(SvX w f (some ⟨b0,off,none⟩) n c base B wc∧FwG base (.slice (some ⟨xg,0,none⟩) n vc) rs' (ls.set b ⟨t,z,fl.drop 1⟩) wc∧Boxed wc B #[.int .i64 g,.slice (some ⟨xg,0,none⟩) n vc] 48)))
 case first =>
  have Cs:Hid (∀ x,Bel w8 x→((∃ y,x.cell? ⟨xg,b*3,none⟩=some y)∧x.frozen? ⟨xg,b*3,none⟩=false)∧((∃ y,x.cell? ⟨xg,b*3+1,none⟩=some y)∧x.frozen? ⟨xg,b*3+1,none⟩=false)∧((∃ y,x.cell? ⟨xg,b*3+2,none⟩=some y)∧x.frozen? ⟨xg,b*3+2,none⟩=false)∧xg<x.heap.size):=fun x q=>by
   have gg:=X8.out.1.2.1.below q
   rw [← Hn.out] at gg
   obtain ⟨d0,d1,d2,d3⟩:=gg.cells hbl
   exact ⟨⟨⟨_,d0⟩,d3 _⟩,⟨⟨_,d1⟩,d3 _⟩,⟨⟨_,d2⟩,d3 _⟩,Nat.lt_of_lt_of_le xg2 q.size⟩
  have Put:Hid (∀ (x2:World) (p:Option Addr) (qc:Nat),Bel w8 x2→IRow w8.heap.size x2 (.slice p (m-1) qc) (fl.drop 1) →
   (∃ rs',(SvX w f (some ⟨b0,off,none⟩) n c base B (((x2.setCell ⟨xg,b*3,none⟩ (.int .i64 t)).setCell ⟨xg,b*3+1,none⟩ (.int .i64 z)).setCell ⟨xg,b*3+2,none⟩ (.slice p (m-1) qc))∧FwG base (.slice (some ⟨xg,0,none⟩) n vc) rs' (ls.set b ⟨t,z,fl.drop 1⟩) (((x2.setCell ⟨xg,b*3,none⟩ (.int .i64 t)).setCell ⟨xg,b*3+1,none⟩ (.int .i64 z)).setCell ⟨xg,b*3+2,none⟩ (.slice p (m-1) qc))∧Boxed (((x2.setCell ⟨xg,b*3,none⟩ (.int .i64 t)).setCell ⟨xg,b*3+1,none⟩ (.int .i64 z)).setCell ⟨xg,b*3+2,none⟩ (.slice p (m-1) qc)) B #[.int .i64 g,.slice (some ⟨xg,0,none⟩) n vc] 48))):=fun x2 p qc g2 g3=>by
   have gg:=X8.out.1.2.1
   rw [← Hn.out] at gg
   have fl':=gg.flow (W:=x2) (r:=⟨t,z,fl.drop 1⟩) hbl g2 g3 (by omega)
   rw [Hn.out] at fl'
   have s:=X8.out.1.1.below g2
   have hB2:=X8.out.1.2.2.below X8.out.1.2.2.under g2
   have lo:=s.lo
   have oth:=fun y (h:y≠xg)=>set3_other x2 xg y (b*3) (b*3+1) (b*3+2) (.int .i64 t) (.int .i64 z) (.slice p (m-1) qc) h
   have nB:B≠xg:=fun e=>by
    have r:=gg.outer
    rcases r.2 with ⟨e2,_⟩|⟨g',cap',cur,e2,_,hg,_⟩
    ·cases e2
    ·cases e2
     have h3:=X8.out.1.2.2
     unfold Boxed at h3
     rw [e,hg] at h3
     simp only [Option.some.injEq,Obj.cells.injEq] at h3
     exact absurd h3.2.1 (by decide)
   refine ⟨_,⟨⟨?_,?_,?_,s.lo,s.hi⟩,fl',?_⟩⟩
   ·unfold Boxed;rw [oth _ (by omega)];exact s.box
   ·unfold Boxed;rw [oth _ (by omega)];exact s.res
   ·exact ((s.bel.setCell (by show w.heap.size≤xg;omega) _).setCell (by show w.heap.size≤xg;omega) _).setCell (by show w.heap.size≤xg;omega) _
   ·unfold Boxed;rw [oth _ nB];exact hB2
  have w8d:Hid (IntsAt w8.drew ak fl):=(Rd.out w8.drew X8.out.1.1.bel.drew).2.2.2
  have eB:w8.cell? ⟨B,1,none⟩=some (.slice (some ⟨xg,0,none⟩) n vc):=X8.out.1.2.2.cell 1 rfl
  have e0:w8.cell? ⟨C,0,none⟩=some (.slice ak m ck):=X8.out.2.1.cell 0 rfl
  have e1:w8.cell? ⟨C,1,none⟩=some (.int .i64 t):=X8.out.2.1.cell 1 rfl
  have lB:B<w8.heap.size:=X8.out.1.2.2.under
  have lC:C<w8.heap.size:=X8.out.2.1.under
  go_region_law (refine stepCall rfl 173 rfl #[.slice ak m ck] (by kernel_rfl) (RS'.out w8.drew w8d.out) ?_;rintro e x2 ⟨vj,rfl,q1,q2⟩;obtain ⟨p,qc,ev⟩:=Sh.out q1;subst ev;refine ⟨_,rfl,?_⟩;have b2:Bel w8 x2:=(Below.refl _ w8).drew.trans q2;have P2:Hid _:=Put.out x2 p qc b2 q1;have eB:x2.cell? ⟨B,1,none⟩=some (.slice (some ⟨xg,0,none⟩) n vc):=(by rw [b2.cell (p:=⟨B,1,none⟩) lB];exact eB);have e1:x2.cell? ⟨C,1,none⟩=some (.int .i64 t):=(by rw [b2.cell (p:=⟨C,1,none⟩) lC];exact e1);obtain ⟨⟨⟨y0,hy0⟩,hz0⟩,⟨⟨y1,hy1⟩,hz1⟩,⟨⟨yy2,hy2⟩,hz2⟩,hxl⟩:=Cs.out x2 b2;clear q1 q2 b2)
  all_goals (go_wp2_with fail;go_meet;exact P2.out)
 case rest =>
 obtain ⟨w9,rfl⟩:∃ w9,w9=wc:=⟨_,rfl⟩
 obtain ⟨rs',hX9⟩:=hcut.out
 have X9:Hid _:=hX9
 clear hcut hX9 X8 RS' Sh kz kz0 kz1 kw hzd hz Rd HK
 go_wp2_with (first|(refine wpList_load_row rfl 48 (.tmp 6) rfl B rfl _ _ _ _ X9.out.2.2 Tryz.underlying48 rfl (by kernel_rfl) ?_)|(refine wpList_store_row rfl 48 (.tmp 4) (.tmp 42) rfl (w.heap.size+1) #[.int .i64 g,.slice (some ⟨xg,0,none⟩) n vc] rfl rfl _ _ X9.out.1.res (by kernel_rfl) rfl (by simp [Value.oneCell']) ?_))
 exact bodyPost_ret (results_row_tmp Tryz.results109 _ _ (w.heap.size+1) _ #[.int .i64 g,.slice (some ⟨xg,0,none⟩) n vc] _ _ (.bool true) rfl rfl (setRow_heap _ (w.heap.size+1) _ _ _ _ X9.out.1.res) Tryz.underlying48 rfl (by kernel_rfl)) rfl ⟨⟨_,rfl,X9.out.1.fin (z:=⟨g,ls.set b ⟨t,z,fl.drop 1⟩⟩) X9.out.2.1 (fun k hk=>setRow_other _ _ _ _ hk)⟩,below_setRow X9.out.1.bel (by omega) _⟩
end Go.Proofs.YtgebghkcikmfaaaGreatDoor
