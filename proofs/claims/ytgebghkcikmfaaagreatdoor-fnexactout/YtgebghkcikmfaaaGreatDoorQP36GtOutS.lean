import Derived.Test.YtgebghkcikmfaaaGreatDoorQP28GtOutE
import Derived.Test.YtgebghkcikmfaaaGreatDoorQP26SrSpecK
import Derived.Test.YtgebghkcikmfaaaGreatDoorQP24NdSpec
import Derived.Test.YtgebghkcikmfaaaGreatDoorQP21NdApp
import Derived.Test.YtgebghkcikmfaaaGreatDoorQP31NdCells
import Derived.Test.YtgebghkcikmfaaaGreatDoorQP32NdPayF
import Derived.BigRegion
import Derived.Test.YtgebghkcikmfaaaGreatDoorQP34OpVal
import Derived.Test.YtgebghkcikmfaaaGreatDoorQP30FsSvG
import Derived.Test.YtgebghkcikmfaaaGreatDoorQP35RwPuPo
import Derived.Test.YtgebghkcikmfaaaGreatDoorQP25QuietSeq
set_option maxHeartbeats 25600000
set_option maxRecDepth 100000
namespace Go.Proofs.YtgebghkcikmfaaaGreatDoor
open Go.RowKit
section
variable {b B:Nat} {w w':World} {x:Ga} {vs:List Value} {rs:List Fwr} {g:Gt}
theorem Gt.cells_rows {l:List (List It)} (hl:l.length=g.rows.lists.length):({ g with rows:=⟨g.rows.most,l⟩ }:Gt).cells x=g.cells x:=by
 unfold Gt.cells
 simp only [hl]
theorem GtB.putRow (h:GtB b B w x vs rs g) {j:Nat} (hj:j<g.rows.lists.length) {x0:World} {u:Value} {l:List It} (q:∀ k,(izV vs j).ownBlock≠some k→k<w.heap.size→x0.heap[k]? = w.heap[k]?) (hu:ItRow b x0 u l) (hw:∀ k,u.ownBlock=some k→(izV vs j).ownBlock=some k∨w.heap.size≤k) {rk:Nat} (ea:x.a5=some ⟨rk,0,none⟩) :
 GtB b B (x0.setCell ⟨rk,j,none⟩ u) x (vs.set j u) rs { g with rows:=⟨g.rows.most,g.rows.lists.set j l⟩ }:=by
 have hr:=h.own.rows.row j hj
 have hro:(Value.slice x.a5 g.rows.lists.length x.c5).ownBlock=some rk:=by rw [ea];rfl
 have q2:∀ k,(izV vs j).ownBlock≠some k→k≠rk→k<w.heap.size→(x0.setCell ⟨rk,j,none⟩ u).heap[k]? = w.heap[k]? := fun k h1 h2 h3=>(Below.heap_setCell _ _ _ _ h2).trans (q k h1 h3)
 have un:∀ {e:TypeId} {c n:Nat} {v:Value} {xs:List Value},w.ownsRow b e c v n xs→52≠e→111≠e→∀ k,v.ownBlock=some k→k<w.heap.size→(x0.setCell ⟨rk,j,none⟩ u).heap[k]? = w.heap[k]? := fun r2 n1 n2 k hk hl =>
  q2 k (fun e=>rows_unlike hr r2 n1 k e hk) (fun e=>rows_unlike h.own.rows.outer r2 n2 rk hro (by rw [← e];exact hk)) hl
 refine ⟨?_,h.own.routes.carry (un h.own.routes (by decide) (by decide)),h.own.rules.carry (un h.own.rules (by decide) (by decide)),h.own.tree.carry (un h.own.tree (by decide) (by decide)),irow_carry h.own.leaves (un h.own.leaves (by decide) (by decide)),?_,h.own.steers.carry (un h.own.steers (by decide) (by decide)),h.own.fair.carry (un h.own.fair.outer (by decide) (by decide)) (fun i k hi=>un (h.own.fair.row i hi) (by decide) (by decide) k),h.own.apart⟩
 ·rw [Gt.cells_rows (by rw [List.length_set])]
  exact (q2 B (fun e=>gate_off h.box hr (by decide) e) (fun e=>gate_off h.box h.own.rows.outer (by decide) (by rw [e];exact hro)) h.box.under).trans h.box
 ·have:=h.own.rows.set hj hu q hw (g:=rk) (cap:=x.c5) (by rw [ea])
  show IzG b (.slice x.a5 (g.rows.lists.set j l).length x.c5) (vs.set j u) (g.rows.lists.set j l) _
  rw [List.length_set]
  exact this
end
theorem specMin (a b:Int) (w:World) :
 Calls Tryz.prog 83 #[.int .i64 a,.int .i64 b] w fun e w'=>e = .returned (.int .i64 (min a b))∧w'=w:=by
 by_cases h:a<b
 ·go_enter Tryz.func83,Tryz.ntmps83
  go_wp2
  go_ret
  exact ⟨ret_num (by omega),rfl⟩
 ·go_enter Tryz.func83,Tryz.ntmps83
  go_wp2
  go_ret
  exact ⟨ret_num (by omega),rfl⟩
theorem specStir (p:Sr) (d:Int) (w:World) (hok:p.ok=true) (hd:inB 0 100000 d=true) :
 Calls Tryz.prog 81 #[p.val,.int .i64 d] w fun e w'=>e = .returned (p.stir d).val∧Below w.heap.size w w':=by
 obtain ⟨k1,k2,k3,k4,k5,k6,k7⟩:=Sr.wraps hok hd
 have hr:=p.raw_in d
 have HR:Hid (p.raw d=max 0 (min 1048576 (p.prob+Int.tdiv (p.add d) (byOf p.prob)))):=rfl
 have HS:Hid (p.stir d=⟨p.target,d,if d=0∧p.old=0 then p.raw d-p.raw d/64 else p.raw d⟩):=rfl
 have HB:Hid (byOf p.prob=if p.prob<1048 then 2048 else if p.prob<10485 then 512 else if p.prob<104857 then 128 else if p.prob<262144 then 32 else 1):=rfl
 have b0:=(byOf_in p.prob).1
 generalize p.stir d=R at HS ⊢
 generalize p.raw d=r at hr HR HS
 generalize p.add d=X at k5 k6 k7 HR
 generalize byOf p.prob=B at k6 k7 HR HB b0
 obtain ⟨Q,hQ⟩:∃ Q,Int.tdiv X B=Q:=⟨_,rfl⟩
 have k8:IntKind.i64.wrap (Int.tdiv X B)=Q:=by rw [k6,hQ]
 rw [hQ] at k7 HR
 clear k6 hQ
 obtain ⟨v0,v1,v2⟩:=p
 simp only [Sr.val] at k1 k2 k3 k4 k5 k7 k8 HR HS HB ⊢
 clear hok hd
 obtain ⟨S,hS⟩:∃ S,v2+Q=S:=⟨_,rfl⟩
 have k9:IntKind.i64.wrap (v2+Q)=S:=by rw [k7,hS]
 rw [hS] at HR
 clear k7 hS
 have A1:∀ w:World,Calls Tryz.prog 83 #[.int .i64 1048576,.int .i64 S] w fun e w'=>e = .returned (.int .i64 (min 1048576 S))∧Below w.heap.size w w':=fun w=>(specMin 1048576 S w).mono fun _ _ h=>⟨h.1,by rw [h.2];exact Below.refl _ _⟩
 generalize min 1048576 S=m at A1 HR
 have A2:∀ w:World,Calls Tryz.prog 82 #[.int .i64 0,.int .i64 m] w fun e w'=>e = .returned (.int .i64 (max 0 m))∧Below w.heap.size w w':=fun w=>(specMx 0 m w).mono fun _ _ h=>⟨h.1,by rw [h.2];exact Below.refl _ _⟩
 rw [← HR.out] at A2
 clear HR
 have A1':Hid _:=A1
 have A2':Hid _:=A2
 clear A1 A2
 have k10:IntKind.i64.wrap (r/64)=r/64:=by rw [IntKind.wrap_i64];omega
 have k11:IntKind.i64.wrap (r-r/64)=r-r/64:=by rw [IntKind.wrap_i64];omega
 have kd:Int.tdiv r 64=r/64:=Int.tdiv_eq_ediv_of_nonneg hr.1
 have bz:¬ B=0:=by omega
 clear hr b0
 obtain ⟨W,hW⟩:∃ W,((w.alloc (.cells #[.int .i64 v0,.int .i64 v1,.int .i64 v2] 114)).alloc (.cells #[.int .i64 0,.int .i64 0,.int .i64 0] 114))=W:=⟨_,rfl⟩
 have X0:Hid (Boxed W w.heap.size #[.int .i64 v0,.int .i64 v1,.int .i64 v2] 114∧Boxed W (w.heap.size+1) #[.int .i64 0,.int .i64 0,.int .i64 0] 114∧Below w.heap.size w W):=by
  rw [← hW]
  refine ⟨(Boxed.new w _ _).more _,?_,((Below.refl _ _).alloc nlr _).alloc (by simp) _⟩
  have:=Boxed.new (w.alloc (.cells #[.int .i64 v0,.int .i64 v1,.int .i64 v2] 114)) #[.int .i64 0,.int .i64 0,.int .i64 0] 114
  simpa using this
 have HW:Hid _:=hW
 clear hW
 have main:∀ B':Int,B=B'→(B'=2048∧v2<1048∨B'=512∧¬ v2<1048∧v2<10485∨B'=128∧¬ v2<1048∧¬ v2<10485∧v2<104857∨B'=32∧¬ v2<1048∧¬ v2<10485∧¬ v2<104857∧v2<262144∨B'=1∧¬ v2<1048∧¬ v2<10485∧¬ v2<104857∧¬ v2<262144):=by
  intro B' e
  have h:=HB.out
  rw [e] at h
  rw [h]
  split
  ·omega
  split
  ·omega
  split
  ·omega
  split<;>omega
 have mb:=main B rfl
 clear main HB
 rcases mb with ⟨rfl,h1⟩|⟨rfl,h1,h2⟩|⟨rfl,h1,h2,h3⟩|⟨rfl,h1,h2,h3,h4⟩|⟨rfl,h1,h2,h3,h4⟩
 all_goals (
  try rw [Int.tdiv_one] at k8
  go_enter Tryz.func81,Tryz.ntmps81
  go_upto_region 10 with fail
  rw [HW.out]
  clear HW
  have c0:∀ p:BelW W.heap.size W,p.w'.cell? ⟨w.heap.size,0,none⟩=some (.int .i64 v0):=fun p=>(X0.out.1.below X0.out.1.under p.h).cell 0 rfl
  have c1:∀ p:BelW W.heap.size W,p.w'.cell? ⟨w.heap.size,1,none⟩=some (.int .i64 v1):=fun p=>(X0.out.1.below X0.out.1.under p.h).cell 1 rfl
  have c2:∀ p:BelW W.heap.size W,p.w'.cell? ⟨w.heap.size,2,none⟩=some (.int .i64 v2):=fun p=>(X0.out.1.below X0.out.1.under p.h).cell 2 rfl
  haveI:Nonempty (BelW W.heap.size W):=⟨⟨W,Below.refl _ _⟩⟩
  refine rgb W.heap.size (by kernel_rfl) (by kernel_rfl) ?_
  repeat (go_big_quiet_step ((first|(go_at_call 83;refine qb (A1'.out _))|(go_at_call 82;refine qb (A2'.out _)))))
  refine wpQuiet_nil ?_
  intro w1 hx
  have q:=BelW.out hx
  have X1:Hid (Boxed w1 w.heap.size #[.int .i64 v0,.int .i64 v1,.int .i64 v2] 114∧Boxed w1 (w.heap.size+1) #[.int .i64 0,.int .i64 0,.int .i64 0] 114∧Below w.heap.size w w1):=⟨X0.out.1.below X0.out.1.under q,X0.out.2.1.below X0.out.2.1.under q,X0.out.2.2.trans (q.mono X0.out.2.2.size)⟩
  clear hx q c0 c1 c2 X0 A1' A2' k1 k2 k3 k4 k5 k8 k9
  have c1:w1.cell? ⟨w.heap.size,1,none⟩=some (.int .i64 v1):=X1.out.1.cell 1 rfl
  have c2:w1.cell? ⟨w.heap.size,2,none⟩=some (.int .i64 v2):=X1.out.1.cell 2 rfl
  have z1:=X1.out.1.ice 1
  have z2:=X1.out.1.ice 2
  have hl:w.heap.size<w1.heap.size:=X1.out.1.under
  by_cases hc:d=0∧v1=0
  ·have e1:R=⟨v0,d,r-r/64⟩:=by rw [HS.out,if_pos hc]
   obtain ⟨hc1,hc2⟩:=hc
   subst e1
   have X2:Hid (Boxed ((w1.setCell ⟨w.heap.size,2,none⟩ (.int .i64 (r-r/64))).setCell ⟨w.heap.size,1,none⟩ (.int .i64 d)) w.heap.size #[.int .i64 v0,.int .i64 d,.int .i64 (r-r/64)] 114∧Boxed ((w1.setCell ⟨w.heap.size,2,none⟩ (.int .i64 (r-r/64))).setCell ⟨w.heap.size,1,none⟩ (.int .i64 d)) (w.heap.size+1) #[.int .i64 0,.int .i64 0,.int .i64 0] 114∧Below w.heap.size w ((w1.setCell ⟨w.heap.size,2,none⟩ (.int .i64 (r-r/64))).setCell ⟨w.heap.size,1,none⟩ (.int .i64 d))):=⟨(X1.out.1.put 2 _).put 1 _,(X1.out.2.1.far (by omega) 2 _).far (by omega) 1 _,(X1.out.2.2.setCell nlr _).setCell nlr _⟩
   subst hc1 hc2
   clear HS
   go_upto_region 15 with fail
   generalize (w1.setCell ⟨w.heap.size,2,none⟩ (.int .i64 (r-r/64))).setCell ⟨w.heap.size,1,none⟩ (.int .i64 0)=w2 at X2 ⊢
   clear X1 c1 c2 z1 z2 hl
   go_wp2_with (first|(refine wpList_load_row rfl 114 (.tmp 2) rfl w.heap.size rfl _ _ _ _ X2.out.1 Tryz.underlying114 rfl (by kernel_rfl) ?_)|(refine wpList_store_row rfl 114 (.tmp 4) (.tmp 56) rfl (w.heap.size+1) _ rfl rfl _ _ X2.out.2.1 (by kernel_rfl) rfl (srOnes _ _ _) ?_))
   exact bodyPost_ret (results_cell_row Tryz.results81 _ _ (w.heap.size+1) _ _ _ _ rfl (setRow_heap _ (w.heap.size+1) _ _ _ _ X2.out.2.1) Tryz.underlying114 rfl (by kernel_rfl)) rfl ⟨rfl,below_setRow X2.out.2.2 (by omega) _⟩
  ·have e1:R=⟨v0,d,r⟩:=by rw [HS.out,if_neg hc]
   subst e1
   have X2:Hid (Boxed ((w1.setCell ⟨w.heap.size,2,none⟩ (.int .i64 r)).setCell ⟨w.heap.size,1,none⟩ (.int .i64 d)) w.heap.size #[.int .i64 v0,.int .i64 d,.int .i64 r] 114∧Boxed ((w1.setCell ⟨w.heap.size,2,none⟩ (.int .i64 r)).setCell ⟨w.heap.size,1,none⟩ (.int .i64 d)) (w.heap.size+1) #[.int .i64 0,.int .i64 0,.int .i64 0] 114∧Below w.heap.size w ((w1.setCell ⟨w.heap.size,2,none⟩ (.int .i64 r)).setCell ⟨w.heap.size,1,none⟩ (.int .i64 d))):=⟨(X1.out.1.put 2 _).put 1 _,(X1.out.2.1.far (by omega) 2 _).far (by omega) 1 _,(X1.out.2.2.setCell nlr _).setCell nlr _⟩
   clear HS
   by_cases hd0:d=0
   ·have ho:¬ v1=0:=fun e=>hc ⟨hd0,e⟩
    clear hc
    subst hd0
    go_upto_region 15 with fail
    generalize (w1.setCell ⟨w.heap.size,2,none⟩ (.int .i64 r)).setCell ⟨w.heap.size,1,none⟩ (.int .i64 0)=w2 at X2 ⊢
    clear X1 c1 c2 z1 z2 hl
    go_wp2_with (first|(refine wpList_load_row rfl 114 (.tmp 2) rfl w.heap.size rfl _ _ _ _ X2.out.1 Tryz.underlying114 rfl (by kernel_rfl) ?_)|(refine wpList_store_row rfl 114 (.tmp 4) (.tmp 56) rfl (w.heap.size+1) _ rfl rfl _ _ X2.out.2.1 (by kernel_rfl) rfl (srOnes _ _ _) ?_))
    exact bodyPost_ret (results_cell_row Tryz.results81 _ _ (w.heap.size+1) _ _ _ _ rfl (setRow_heap _ (w.heap.size+1) _ _ _ _ X2.out.2.1) Tryz.underlying114 rfl (by kernel_rfl)) rfl ⟨rfl,below_setRow X2.out.2.2 (by omega) _⟩
   ·clear hc
    go_upto_region 15 with fail
    generalize (w1.setCell ⟨w.heap.size,2,none⟩ (.int .i64 r)).setCell ⟨w.heap.size,1,none⟩ (.int .i64 d)=w2 at X2 ⊢
    clear X1 c1 c2 z1 z2 hl
    go_wp2_with (first|(refine wpList_load_row rfl 114 (.tmp 2) rfl w.heap.size rfl _ _ _ _ X2.out.1 Tryz.underlying114 rfl (by kernel_rfl) ?_)|(refine wpList_store_row rfl 114 (.tmp 4) (.tmp 56) rfl (w.heap.size+1) _ rfl rfl _ _ X2.out.2.1 (by kernel_rfl) rfl (srOnes _ _ _) ?_))
    exact bodyPost_ret (results_cell_row Tryz.results81 _ _ (w.heap.size+1) _ _ _ _ rfl (setRow_heap _ (w.heap.size+1) _ _ _ _ X2.out.2.1) Tryz.underlying114 rfl (by kernel_rfl)) rfl ⟨rfl,below_setRow X2.out.2.2 (by omega) _⟩)
theorem specPath (a:Option Addr) (cap:Nat) (l:List Nd) (n:Int) (w:World) (hin:tin l n=true) (h:Hid (NdsAt w a l)) :
 Calls Tryz.prog 145 #[.slice a l.length cap,.int .i64 n] w fun e w'=>(∃ v,e = .returned v∧IRow w.heap.size w' v (path l n))∧Bel w w':=by
 obtain ⟨hok,h0,h1⟩:=tin_iff.1 hin
 have Hk:Hid (tok l=true∧l.length≤12∧(path l n).length≤12):=⟨hok,(tok_iff.1 hok).2.1,by have:=path_len hok (by omega) h1;have:=(tok_iff.1 hok).2.1;omega⟩
 obtain ⟨P,hP⟩:∃ P,P=path l n:=⟨_,rfl⟩
 rw [← hP] at Hk ⊢
 have HP:Hid (([]:List Int)++path l n=P):=by show []++path l n=P;rw [hP];rfl
 clear hP hin hok
 obtain ⟨len,hlen⟩:∃ m,l.length=m:=⟨_,rfl⟩
 rw [hlen] at h1 ⊢
 have Hlen:Hid (l.length=len):=hlen
 clear hlen
 have E0:Hid (IRow w.heap.size (w.alloc (.cells #[] 2)) (.slice (some ⟨w.heap.size,0,none⟩) 0 0) []∧Bel w (w.alloc (.cells #[] 2))):=⟨irow_built w w.heap.size nlr,(Below.refl _ _).alloc nlr _⟩
 go_enter Tryz.func145,Tryz.ntmps145
 go_wp2
 generalize w.alloc (.cells #[] 2)=wb at E0 ⊢
 go_loopw [1,5] (fun s v wr=>∃ m:Int,s = .int .i64 m ∧ -1≤m∧m<(len:Int)∧Hid (∃ acc:List Int,acc++path l m=P∧IRow w.heap.size wr v acc∧Bel w wr)) (fun s _ _=>(intOf s+1).toNat)
 case atStart=>exact ⟨n,rfl,by omega,h1,[],HP.out,E0.out.1,E0.out.2⟩
 case round =>
  obtain ⟨m,rfl,m0,m1,HA⟩:=hrel
  obtain ⟨acc,hacc,hrow,hbel⟩:=HA.out
  clear HA E0
  by_cases hm:0≤m
  ·obtain ⟨k,rfl⟩:=Int.eq_ofNat_of_zero_le hm
   have hk:k<len:=by omega
   obtain ⟨b1,o1,ha1,hb1,-⟩:=h.out k (by rw [Hlen.out];exact hk)
   subst ha1
   have hnx:=path_next (n:=(k:Int)) Hk.out.1 (by omega) (by rw [Hlen.out];omega)
   have hup:=tok_at Hk.out.1 (k:=k) (by rw [Hlen.out];exact hk)
   rw [Int.toNat_natCast] at hnx
   rw [hnx] at hacc
   have Nx:Hid (∀ w2,Bel w w2→w2.cell? ⟨b1,o1+k*5,none⟩=some (.int .i64 (ndAt l k).up)):=fun w2 q=>((h.out.below q).cells (k:=k) (by rw [Hlen.out];exact hk)).1
   have Hu:Hid (-1≤(ndAt l k).up∧(ndAt l k).up<k):=⟨hup.2.2.1,hup.2.2.2.1⟩
   generalize (ndAt l k).up=u at hacc Nx Hu
   have Ha:Hid ((acc++[(k:Int)])++path l u=P):=by show (acc++[(k:Int)])++path l u=P;rw [List.append_assoc];exact hacc
   have Hl:Hid (acc.length≤1000000):=by
    show acc.length≤1000000
    have:=congrArg List.length hacc
    rw [List.length_append] at this
    have:=Hk.out.2.2
    omega
   have Hr:Hid (IRow w.heap.size wr u5 acc∧Bel w wr):=⟨hrow,hbel⟩
   clear hnx hup hacc hrow hbel hb1
   go_wp2_with (refine row_iapp1 rfl (.tmp 9) (.tmp 11) rfl w.heap.size _ acc (k:Int) rfl Hr.out.1 rfl Hl.out Hr.out.2.size ?_;intro v' w2 q1 q2;have q3:Bel w w2:=Hr.out.2.trans q2;have c0:=Nx.out w2 q3;have R2:Hid (IRow w.heap.size w2 v' (acc++[(k:Int)])∧Bel w w2):=⟨q1,q3⟩;clear q1 q2 q3)
   go_roundw
   case rel=>exact ⟨u,rfl,Hu.out.1,by have:=Hu.out.2;omega,_,Ha.out,R2.out⟩
   case measure=>simp [intOf];have:=Hu.out;omega
  ·obtain rfl:m = -1:=by omega
   rw [path_end,List.append_nil] at hacc
   have Hr:Hid (IRow w.heap.size wr u5 acc∧Bel w wr):=⟨hrow,hbel⟩
   subst hacc
   clear hrow hbel
   go_wp2
   go_ret
   exact ⟨⟨_,rfl,Hr.out.1⟩,Hr.out.2⟩
theorem specMaxN (a b:Int) (w:World) :
 Calls Tryz.prog 82 #[.int .i64 a,.int .i64 b] w fun e w'=>e = .returned (.int .i64 (max a b))∧w'=w:=by
 by_cases h:b<a
 ·rw [show max a b=a by omega]
  go_enter Tryz.func82,Tryz.ntmps82
  go_wp2
  go_ret
  exact ⟨rfl,rfl⟩
 ·rw [show max a b=b by omega]
  have h':decide (b<a)=false:=decide_eq_false h
  go_enter Tryz.func82,Tryz.ntmps82
  go_wp2
  go_ret
  exact ⟨rfl,rfl⟩
theorem path_spots {l:List Nd} {n:Int} (hin:tin l n=true):∀ i,i<(path l n).length→∃ k:Nat,(path l n)[i]?.getD 0=(k:Int)∧k<l.length:=by
 obtain ⟨hok,h0,h1⟩:=tin_iff.1 hin
 intro i hi
 have hm:=path_mem hok (by omega) h1 ((path l n)[i]?.getD 0) (by rw [List.getElem?_eq_getElem hi];exact List.getElem_mem hi)
 exact ⟨((path l n)[i]?.getD 0).toNat,by omega,by omega⟩
theorem specCanP (a:Option Addr) (cap:Nat) (l:List Nd) (n size:Int) (w:World) (hin:tin l n=true) (h:Hid (NdsAt w a l)) :
 Calls Tryz.prog 77 #[.slice a l.length cap,.int .i64 n,.int .i64 size] w fun e w'=>e = .returned (.bool (canP l (path l n) size))∧Bel w w':=by
 have A1:=fun (_:Nat)=>specPath a cap l n w hin h
 have Hs:Hid (∀ i,i<(path l n).length→∃ k:Nat,(path l n)[i]?.getD 0=(k:Int)∧k<l.length):=path_spots hin
 have Hl:Hid ((path l n).length≤1048576):=by
  obtain ⟨hok,h0,h1⟩:=tin_iff.1 hin
  have:=path_len hok (by omega) h1
  have:=(tok_iff.1 hok).2.1
  show (path l n).length≤1048576
  omega
 have Hl2:Hid (l.length≤12):=(tok_iff.1 (tin_iff.1 hin).1).2.1
 generalize path l n=P at A1 Hs Hl ⊢
 obtain ⟨R,hR⟩:∃ R,canP l P size=R:=⟨_,rfl⟩
 have Yes:Hid ((∀ i,i<P.length→size≤(ndAt l (P[i]?.getD 0).toNat).pz.level)→R=true):=fun g=>by
  rw [← hR]
  unfold canP
  rw [List.all_eq_true]
  intro x hx
  obtain ⟨i,hi,e⟩:=List.getElem_of_mem hx
  have:=g i hi
  rw [List.getElem?_eq_getElem hi,e] at this
  exact decide_eq_true this
 have No:Hid (∀ i,i<P.length→(ndAt l (P[i]?.getD 0).toNat).pz.level<size→R=false):=fun i hi g=>by
  rw [← hR]
  cases hq:canP l P size with
  |false=>rfl
  |true =>
   unfold canP at hq
   rw [List.all_eq_true] at hq
   have:=of_decide_eq_true (hq (P[i]?.getD 0) (by rw [List.getElem?_eq_getElem hi];exact List.getElem_mem hi))
   omega
 rw [hR]
 clear hR hin
 obtain ⟨len,hlen⟩:∃ m,l.length=m:=⟨_,rfl⟩
 obtain ⟨pn,hpn⟩:∃ m,P.length=m:=⟨_,rfl⟩
 rw [hlen] at A1 Hs Hl2 ⊢
 rw [hpn] at Hs Hl Yes No
 have hT:pn≤1048576:=Hl.out
 have hL:len≤12:=Hl2.out
 have Hlen:Hid (l.length=len∧P.length=pn):=⟨hlen,hpn⟩
 have A1':Hid _:=A1
 clear A1 hlen hpn Hl Hl2
 go_enter Tryz.func77,Tryz.ntmps77
 go_wp2_with fail
 refine (A1'.out 0).mono ?_
 rintro e w1 ⟨⟨v,rfl,r⟩,q⟩
 obtain ⟨a2,c2,rfl⟩:=r.shape
 have I:Hid (IntsAt w1 a2 P∧NdsAt w1 a l∧Bel w w1):=⟨r.ints,h.out.below q,q⟩
 rw [Hlen.out.2]
 clear r q A1' h
 go_wp2
 go_loop [8] (fun s=>∃ i:Nat,i≤pn∧s = .int .i64 i∧Hid (∀ j,j<i→size≤(ndAt l (P[j]?.getD 0).toNat).pz.level)) (fun s=>pn-(intOf s).toNat)
 case atStart=>exact ⟨0,Nat.zero_le _,rfl,fun j hj=>by omega⟩
 case round =>
  obtain ⟨i,hi,rfl,HK⟩:=hrel
  by_cases hlt:i<pn
  case neg =>
   obtain rfl:i=pn:=by omega
   have e:R=true:=Yes.out HK.out
   subst e
   go_wp2
   go_ret
   exact ⟨rfl,I.out.2.2⟩
  have hlt':(i:Int)<(pn:Int):=by omega
  obtain ⟨b2,o2,ha2,-,q0⟩:=I.out.1 i (by rw [Hlen.out.2];exact hlt)
  obtain ⟨k,hk1,hk2⟩:=Hs.out i hlt
  obtain ⟨b1,o1,ha1,-,-⟩:=I.out.2.1 k (by rw [Hlen.out.1];exact hk2)
  subst ha2;subst ha1
  have c3:=(I.out.2.1.cells (k:=k) (by rw [Hlen.out.1];exact hk2)).2.2.2.1
  rw [hk1] at q0
  have Nk:=No.out i hlt
  have Yk:Hid (size≤(ndAt l (P[i]?.getD 0).toNat).pz.level→∀ j,j<i+1→size≤(ndAt l (P[j]?.getD 0).toNat).pz.level):=fun hg j hj=>by
   by_cases e:j=i
   ·rw [e];exact hg
   ·exact HK.out j (by omega)
  rw [hk1,Int.toNat_natCast] at Nk Yk
  generalize (ndAt l k).pz.level=z at c3 Nk Yk
  have HN:Hid (z<size→R=false):=Nk
  clear Nk HK hk1
  by_cases hz:z<size
  ·have e:R=false:=HN.out hz
   subst e
   go_wp2
   go_ret
   exact ⟨rfl,I.out.2.2⟩
  ·have hz':decide (z<size)=false:=decide_eq_false hz
   have G:Hid _:=Yk.out (by omega)
   clear Yk
   go_wp2
   go_round
   case rel=>exact ⟨i+1,by omega,by go_num,G.out⟩
   case measure=>simp [intOf];omega
theorem specPayO (base g cap:Nat) (l:List Nd) (n size:Int) (w:World) (hc:can l n size=true) (h:Hid (NdRow base w (.slice (some ⟨g,0,none⟩) l.length cap) l)) (hb:base≤w.heap.size) :
 Calls Tryz.prog 80 #[.slice (some ⟨g,0,none⟩) l.length cap,.int .i64 n,.int .i64 size] w fun e w'=>e = .returned (.tuple #[])∧NdRow base w' (.slice (some ⟨g,0,none⟩) l.length cap) (payP l size (path l n))∧Below base w w'∧∀ k,k≠g→k<w.heap.size→w'.heap[k]? = w.heap[k]? := by
 obtain ⟨hin,hs0,hlev⟩:=can_iff.1 hc
 obtain ⟨hok,n0,n1⟩:=tin_iff.1 hin
 have A1:=fun (_:Nat)=>specPath (some ⟨g,0,none⟩) cap l n w hin h.out.at
 have hnd:=path_nodup hok (by omega) n1
 have hbd:∀ x∈path l n,0≤x∧x<l.length:=fun x hx=>by have:=path_mem hok (by omega) n1 x hx;omega
 have hlen2:=path_len hok (by omega) n1
 have hl12:=(tok_iff.1 hok).2.1
 have Hs:Hid (∀ i,i<(path l n).length→∃ k:Nat,(path l n)[i]?.getD 0=(k:Int)∧k<l.length∧(payP l size ((path l n).take (i+1)))=(payP l size ((path l n).take i)).set k ((ndAt (payP l size ((path l n).take i)) k).less size)∧ndAt (payP l size ((path l n).take i)) k=ndAt l k∧0≤size∧size≤(ndAt l k).pz.level∧(ndAt l k).pz.level≤100000):=fun i hi=>by
  obtain ⟨k,e1,e2⟩:=path_spots hin i hi
  have hm:=hlev ((path l n)[i]?.getD 0) (by rw [List.getElem?_eq_getElem hi];exact List.getElem_mem hi)
  rw [e1,Int.toNat_natCast] at hm
  have ok:=Pz.ok_iff.1 (tok_at hok e2).1
  obtain ⟨s1,s2⟩:=pay_step (size:=size) hnd hbd hi e1 e2
  exact ⟨k,e1,e2,s1,s2,hs0,hm,by omega⟩
 have Hl:Hid ((path l n).length≤1048576):=by
  show (path l n).length≤1048576
  omega
 generalize path l n=P at A1 Hs Hl ⊢
 clear hc hin hs0 hlev hok hnd hbd hlen2
 have HR:Hid (NdRow base w (.slice (some ⟨g,0,none⟩) l.length cap) (payP l size (P.take 0))):=by
  show NdRow base w _ (payP l size (P.take 0))
  simpa [payP] using h.out
 have Hpl:Hid (∀ i,(payP l size (P.take i)).length=l.length):=fun i=>payP_len size _ _
 obtain ⟨len,hlen⟩:∃ m,l.length=m:=⟨_,rfl⟩
 obtain ⟨pn,hpn⟩:∃ m,P.length=m:=⟨_,rfl⟩
 have hfin:P.take pn=P:=by rw [← hpn];exact List.take_length
 have Hf:Hid (P.take pn=P):=hfin
 rw [hlen] at A1 Hs HR Hpl n1 hl12 ⊢
 rw [hpn] at Hs Hl
 have hT:pn≤1048576:=Hl.out
 have Hlen:Hid (P.length=pn):=hpn
 have A1':Hid _:=A1
 have hgb:Hid (base≤g):=(World.ownsRow.lt h.out g rfl).1
 clear A1 hlen hpn Hl hfin h
 go_enter Tryz.func80,Tryz.ntmps80
 go_wp2_with fail
 refine (A1'.out 0).mono ?_
 rintro e w1 ⟨⟨v,rfl,r⟩,q⟩
 obtain ⟨a2,c2,rfl⟩:=r.shape
 have hg:g<w.heap.size:=(World.ownsRow.lt HR.out g rfl).2
 have R1:Hid (NdRow base w1 (.slice (some ⟨g,0,none⟩) len cap) (payP l size (P.take 0))∧Below base w w1∧∀ k,k≠g→k<w.heap.size→w1.heap[k]? = w.heap[k]?):=⟨HR.out.below (fun k hk=>by cases hk;exact hg) q,q.mono hb,fun k _ hk=>q.block k hk⟩
 have I:Hid (IRow w.heap.size w1 (.slice a2 P.length c2) P∧g<w.heap.size):=⟨r,hg⟩
 rw [Hlen.out] at I ⊢
 clear r q A1' HR hg
 go_wp2
 go_loopw [7] (fun s wr=>∃ i:Nat,i≤pn∧s = .int .i64 i∧Hid (NdRow base wr (.slice (some ⟨g,0,none⟩) len cap) (payP l size (P.take i))∧IRow w.heap.size wr (.slice a2 pn c2) P∧Below base w wr∧∀ k,k≠g→k<w.heap.size→wr.heap[k]? = w.heap[k]?)) (fun s _=>pn-(intOf s).toNat)
 case atStart=>exact ⟨0,Nat.zero_le _,rfl,R1.out.1,I.out.1,R1.out.2⟩
 case round =>
  obtain ⟨i,hi,rfl,HK⟩:=hrel
  by_cases hlt:i<pn
  case neg =>
   obtain rfl:i=pn:=by omega
   rw [Hf.out] at HK
   go_wp2
   go_end0
   exact ⟨rfl,HK.out.1,HK.out.2.2.1,HK.out.2.2.2⟩
  have hlt':(i:Int)<(pn:Int):=by omega
  obtain ⟨k,hk1,hk2,hs1,hs2,hz0,hz1,hz2⟩:=Hs.out i hlt
  have hI:IntsAt wr a2 P:=by have:=HK.out.2.1;rw [← Hlen.out] at this;exact this.ints
  obtain ⟨b2,o2,ha2,hb2,q0⟩:=hI i (by rw [Hlen.out];exact hlt)
  subst ha2
  rw [hk1] at q0
  have hrow:=HK.out.1
  have hrow':wr.ownsRow base 130 5 (.slice (some ⟨g,0,none⟩) len cap) len (ndcells (payP l size (P.take i))):=by have:=hrow;unfold NdRow at this;rw [Hpl.out] at this;exact this
  have hcs:(ndcells (payP l size (P.take i))).length=len*5:=by rw [ndcells_length,Hpl.out]
  have c3:wr.cell? ⟨g,k*5+3,none⟩=some (.int .i64 (ndAt l k).pz.level):=by
   rw [World.ownsRow.cellAt hrow' _ (by omega)]
   rw [(ndcells_get (payP l size (P.take i)) k (by rw [Hpl.out];exact hk2)).2.2.2.1,hs2]
  have f3:wr.frozen? ⟨g,k*5+3,none⟩=false:=World.ownsRow.frozenAt hrow' _
  have hgl:g<wr.heap.size:=(World.ownsRow.lt hrow g rfl).2
  have Nx:Hid (NdRow base (wr.setCell ⟨g,k*5+3,none⟩ (.int .i64 ((ndAt l k).pz.level-size))) (.slice (some ⟨g,0,none⟩) len cap) (payP l size (P.take (i+1)))∧IRow w.heap.size (wr.setCell ⟨g,k*5+3,none⟩ (.int .i64 ((ndAt l k).pz.level-size))) (.slice (some ⟨b2,o2,none⟩) pn c2) P∧Below base w (wr.setCell ⟨g,k*5+3,none⟩ (.int .i64 ((ndAt l k).pz.level-size)))∧∀ j,j≠g→j<w.heap.size→(wr.setCell ⟨g,k*5+3,none⟩ (.int .i64 ((ndAt l k).pz.level-size))).heap[j]? = w.heap[j]?):=by
   refine ⟨?_,?_,HK.out.2.2.1.setCell hgb.out _,fun j h1 h2=>(Below.heap_setCell _ _ _ _ h1).trans (HK.out.2.2.2 j h1 h2)⟩
   ·have h1:=(World.ownsRow.stored hrow' (k*5+3) (.int .i64 ((ndAt l k).pz.level-size))).1
    rw [← hs2,ndcells_level _ _ _ (by rw [Hpl.out];exact hk2),← hs1] at h1
    unfold NdRow
    rw [Hpl.out,← hs2]
    exact h1
   ·exact HK.out.2.1.carry fun j j1 _=>by
     have hI2:=I.out.2
     exact Below.heap_setCell _ _ _ _ (by show j≠g;omega)
  generalize (ndAt l k).pz.level=z at c3 Nx hz1 hz2
  have wz:IntKind.i64.wrap (z-size)=z-size:=by rw [IntKind.wrap_i64];omega
  have hkc:(k:Int)<(len:Int):=by omega
  clear HK hs1 hs2 hk1 hI hrow hcs hrow'
  go_upto_region 4 with fail
  go_region
  go_wp2
  go_roundw
  case rel=>exact ⟨i+1,by omega,by go_num,Nx.out.1.drew,Nx.out.2.1,Nx.out.2.2.1.drew,Nx.out.2.2.2⟩
  case measure=>simp [intOf];omega
theorem GtB.served {b B:Nat} {w w':World} {x:Ga} {vs:List Value} {rs:List Fwr} {g:Gt} (h:GtB b B w x vs rs g) {z:Fs} (hl:z.flows.length=g.fair.flows.length) (s:SvG B b (.slice x.a7 g.fair.flows.length x.c7) g.fair.flows.length rs z w w'):∃ rs',GtB b B w' x vs rs' { g with fair:=z }:=by
 obtain ⟨⟨rs',f1,f2,f3⟩,s2,s3⟩:=s
 have hbx:=s2 _ _ h.box
 have un:∀ {e:TypeId} {c n:Nat} {v:Value} {xs:List Value},w.ownsRow b e c v n xs→50≠e→116≠e→∀ k,v.ownBlock=some k→k<w.heap.size→w'.heap[k]? = w.heap[k]? := fun r2 n1 n2 k hk hlt =>
  s3.block k hlt (fun e=>gate_off h.box r2 n1 (by rw [← e];exact hk)) (fun e=>rows_unlike h.own.fair.outer r2 n2 k e hk)
 refine ⟨rs',?_,h.own.routes.carry (un h.own.routes (by decide) (by decide)),h.own.rules.carry (un h.own.rules (by decide) (by decide)),h.own.tree.carry (un h.own.tree (by decide) (by decide)),irow_carry h.own.leaves (un h.own.leaves (by decide) (by decide)),h.own.rows.carry (un h.own.rows.outer (by decide) (by decide)) (fun i k hi=>un (h.own.rows.row i hi) (by decide) (by decide) k),h.own.steers.carry (un h.own.steers (by decide) (by decide)),?_,fun i k hi hk=>?_⟩
 ·have e:({ g with fair:=z }:Gt).cells x=(g.cells x).setIfInBounds 10 (.int .i64 z.now):=by
   unfold Gt.cells
   simp only [hl]
   rfl
  rw [e]
  exact hbx
 ·show FwG b (.slice x.a7 z.flows.length x.c7) rs' z.flows w'
  rw [hl]
  exact f1
 ·have hi':i<g.fair.flows.length:=by rw [← hl];exact hi
  intro hk2
  rcases f3 i hi' k hk with h3|h3
  ·exact h.own.apart i k hi' h3 hk2
  ·have:=(World.ownsRow.lt h.own.leaves k hk2).2
   omega
theorem GtB.beside {b B R:Nat} {w w':World} {x:Ga} {vs:List Value} {rs:List Fwr} {g:Gt} {cs:Array Value} (h:GtB b B w x vs rs g) (hb:Boxed w R cs 52) (hR:∀ i k,i<g.rows.lists.length→(izV vs i).ownBlock=some k→k≠R) (q:∀ k,k≠R→k<w.heap.size→w'.heap[k]? = w.heap[k]?):GtB b B w' x vs rs g:=by
 have un:∀ {e:TypeId} {c n:Nat} {v:Value} {xs:List Value},w.ownsRow b e c v n xs→52≠e→∀ k,v.ownBlock=some k→k<w.heap.size→w'.heap[k]? = w.heap[k]? := fun r2 n1 k hk hlt=>q k (fun e=>row_off r2 hb n1 (by rw [← e];exact hk)) hlt
 refine ⟨(q B (fun e=>?_) h.box.under).trans h.box,h.own.routes.carry (un h.own.routes (by decide)),h.own.rules.carry (un h.own.rules (by decide)),h.own.tree.carry (un h.own.tree (by decide)),irow_carry h.own.leaves (un h.own.leaves (by decide)),h.own.rows.carry (un h.own.rows.outer (by decide)) (fun i k hi hk hl=>q k (hR i k hi hk) hl),h.own.steers.carry (un h.own.steers (by decide)),h.own.fair.carry (un h.own.fair.outer (by decide)) (fun i k hi=>un (h.own.fair.row i hi) (by decide) k),h.own.apart⟩
 have h1:=h.box
 unfold Boxed at h1 hb
 rw [e,hb] at h1
 simp only [Option.some.injEq,Obj.cells.injEq] at h1
 exact absurd h1.2.1 (by decide)
theorem Gt.out_no {g:Gt} (h:g.outB=false):g.out=g∧g.outI=⟨0,0,0⟩∧g.outL = -1:=by
 unfold Gt.out Gt.outI Gt.outL
 rw [h]
 exact ⟨rfl,rfl,rfl⟩
theorem Gt.out_yes {g:Gt} (h:g.outB=true):g.out=g.go g.best.toNat∧g.outI=itAt (izAt g.rows.lists g.best.toNat) 0∧g.outL=g.best:=by
 unfold Gt.out Gt.outI Gt.outL
 rw [h]
 exact ⟨rfl,rfl,rfl⟩
theorem specOutP (b B:Nat) (x:Ga) (vs:List Value) (rs:List Fwr) (g:Gt) (w:World) (hok:g.ok=true) (hb:b≤w.heap.size) (hbB:b≤B) (h:Hid (GtB b B w x vs rs g)) :
 Calls Tryz.prog 24 #[.pointer (some ⟨B,0,none⟩)] w fun e w'=>e = .returned (.tuple #[g.outI.val,.int .i64 g.outL])∧(∃ x2 vs2 rs2,GtB b B w' x2 vs2 rs2 g.out)∧Below b w w':=by
 obtain ⟨hh,hl⟩:=Gt.ok_iff.1 hok
 obtain ⟨k1,k2,k3,k4,k5,k6,k7,k8,k9,k10,k11,k12⟩:=Gt.head_iff.1 hh
 have Lf:=fun i (hi:i<g.leaves.length)=>Gt.leaf_iff.1 (hl i hi)
 have Cn:Hid (∀ k,k<g.leaves.length→g.fair.waits k=true→∀ W,NdsAt W x.a3 g.tree→Calls Tryz.prog 77 #[.slice x.a3 g.tree.length x.c3,.int .i64 (g.leaves[k]?.getD 0),.int .i64 (szAt (fwAt g.fair.flows k).sizes 0)] W fun e w'=>e = .returned (.bool (g.may k))∧Below W.heap.size W w'):=fun k hk hw W hN=>by
  have hin:tin g.tree (g.leaves[k]?.getD 0)=true:=tin_iff.2 ⟨k4,(Lf k hk).1.1,(Lf k hk).1.2⟩
  have hwt:0<(fwAt g.fair.flows k).sizes.length:=of_decide_eq_true hw
  have hsz:=(Fw.ok_iff.1 (Fs.ok_at k9 (i:=k) (by omega))).2.2.2 _ (szAt_mem (j:=0) hwt)
  have q:=specCanP x.a3 x.c3 g.tree (g.leaves[k]?.getD 0) (szAt (fwAt g.fair.flows k).sizes 0) W hin hN
  have e:g.may k=canP g.tree (path g.tree (g.leaves[k]?.getD 0)) (szAt (fwAt g.fair.flows k).sizes 0):=by
   unfold Gt.may can
   rw [hin,decide_eq_true (show 0≤szAt (fwAt g.fair.flows k).sizes 0 by omega)]
   simp
  rw [e]
  exact q
 have Bg:Hid (∀ i,i<g.fair.flows.length→∀ W,FwsAt W x.a7 g.fair.flows→Calls Tryz.prog 78 #[.agg #[.int .i64 g.fair.now,.slice x.a7 g.fair.flows.length x.c7],.int .i64 (i:Int)] W fun e w'=>e = .returned (.int .i64 (g.fair.beg i))∧Below W.heap.size W w'):=fun i hi W hF=>specBeg g.fair (g.fair.val x.a7 x.c7) i W hi (by have:=(Fs.ok_iff.1 k9).2.1.2;omega) ⟨_,_,rfl,hF⟩
 have Bs:Hid (∀ k,g.fair.bestP g.may (k+1)=if (g.fair.waits k&&(g.may k&&(decide (g.fair.bestP g.may k<0)||decide (g.fair.beg k<g.fair.beg (g.fair.bestP g.may k).toNat))))=true then (k:Int) else g.fair.bestP g.may k):=fun k=>rfl
 have Bi:Hid (∀ k,-1≤g.fair.bestP g.may k∧g.fair.bestP g.may k<k):=fun k=>g.fair.bestP_in g.may k
 have Wt:Hid (∀ k,g.fair.waits k=decide (0<(fwAt g.fair.flows k).sizes.length)):=fun _=>rfl
 have Hn:Hid (g.fair.flows.length=g.leaves.length∧g.leaves.length≤8∧1≤g.leaves.length∧g.rows.lists.length=g.leaves.length∧g.steers.length=g.leaves.length∧1≤g.tree.length∧g.tree.length≤12):=⟨k10,k5.2,k5.1,k7,k8,(tok_iff.1 k4).1,(tok_iff.1 k4).2.1⟩
 have Hb:Hid (b≤w.heap.size∧b≤B):=⟨hb,hbB⟩
 have Hok:Hid (g.ok=true):=hok
 have H0:Hid (GtB b B w x vs rs g):=h
 obtain ⟨W0,hW⟩:∃ W,W=w.alloc (.cells zi 52):=⟨_,rfl⟩
 have X0:Hid (GtB b B W0 x vs rs g∧Boxed W0 w.heap.size zi 52∧Below w.heap.size w W0):=by
  have q:Below w.heap.size w W0:=by rw [hW];exact (Below.refl _ _).alloc nlr _
  exact ⟨h.out.below q,by rw [hW];exact Boxed.new _ _ _,q⟩
 have HW:Hid (W0=_):=hW
 clear hW h hb hbB hh hl k1 k2 k3 k4 k5 k6 k7 k8 k9 k10 k11 k12 Lf hok
 obtain ⟨R,hR⟩:∃ R,R=w.heap.size:=⟨_,rfl⟩
 have HR:Hid (R=w.heap.size):=hR
 rw [← hR] at X0
 clear hR
 obtain ⟨n,hn⟩:∃ n,g.leaves.length=n:=⟨_,rfl⟩
 have HN:Hid (g.leaves.length=n):=hn
 go_enter Tryz.func24,Tryz.ntmps24
 go_upto_region 1 with fail
 rw [← HW.out,← HR.out]
 clear HW
 have hu0:Hid (R<W0.heap.size∧B<W0.heap.size):=⟨X0.out.2.1.under,X0.out.1.box.under⟩
 have hn8:n≤8:=by have:=Hn.out.2.1;omega
 clear hn
 go_wp2
 go_loopw [4,5,6] (fun bv iv _ wr=>∃ (k:Nat) (z:Int),k≤n∧iv = .int .i64 k∧bv = .int .i64 z∧Hid (z=g.fair.bestP g.may k)∧Hid (Below W0.heap.size W0 wr)) (fun _ iv _ _=>n-(intOf iv).toNat)
 case atStart=>exact ⟨0,-1,Nat.zero_le _,rfl,rfl,rfl,Below.refl _ _⟩
 case round =>
  obtain ⟨k,z,hk,rfl,rfl,Hz,HK⟩:=hrel
  have Bx:Hid (GtB b B wr x vs rs g∧Boxed wr R zi 52∧Below w.heap.size w wr):=⟨X0.out.1.below HK.out,X0.out.2.1.below X0.out.2.1.under HK.out,by rw [← HR.out];exact X0.out.2.2.trans (HK.out.mono (Nat.le_of_lt hu0.out.1))⟩
  have c6:wr.cell? ⟨B,6,none⟩=some (.slice x.a4 n x.c4):=by rw [← HN.out];exact Bx.out.1.box.cell 6 rfl
  by_cases hlt:k<n
  ·have hlt':(k:Int)<(n:Int):=by omega
   have hkf:k<g.fair.flows.length:=by rw [Hn.out.1,HN.out];exact hlt
   have hkf':(k:Int)<(g.fair.flows.length:Int):=by omega
   have V:GtV wr x g:=Bx.out.1.own.at
   have c11:wr.cell? ⟨B,11,none⟩=some (.slice x.a7 g.fair.flows.length x.c7):=Bx.out.1.box.cell 11 rfl
   obtain ⟨b7,o7,ak,ck,ha7,hb7,⟨-,-,e2⟩,hin,-⟩:=V.fair.spot k hkf
   obtain ⟨b4,o4,ha4,hb4,l4⟩:=V.leaves.spot' k (by rw [HN.out];exact hlt)
   have Kp:Hid (∀ p:BelW wr.heap.size wr,NdsAt p.w' x.a3 g.tree∧FwsAt p.w' x.a7 g.fair.flows):=fun p=>⟨V.tree.spot'.below p.h,V.fair.spot.below p.h⟩
   have C1:Hid _:=Cn.out k (by rw [HN.out];exact hlt)
   have C2:Hid _:=Bg.out k hkf
   have d5:∀ p:BelW wr.heap.size wr,p.w'.cell? ⟨B,5,none⟩=some (.slice x.a3 g.tree.length x.c3):=fun p=>(Bx.out.1.below p.h).box.cell 5 rfl
   have d6:∀ p:BelW wr.heap.size wr,p.w'.cell? ⟨B,6,none⟩=some (.slice x.a4 n x.c4):=fun p=>by rw [← HN.out];exact (Bx.out.1.below p.h).box.cell 6 rfl
   have d10:∀ p:BelW wr.heap.size wr,p.w'.cell? ⟨B,10,none⟩=some (.int .i64 g.fair.now):=fun p=>(Bx.out.1.below p.h).box.cell 10 rfl
   have d11:∀ p:BelW wr.heap.size wr,p.w'.cell? ⟨B,11,none⟩=some (.slice x.a7 g.fair.flows.length x.c7):=fun p=>(Bx.out.1.below p.h).box.cell 11 rfl
   have dl:∀ p:BelW wr.heap.size wr,p.w'.cell? ⟨b4,o4+k,none⟩=some (.int .i64 (g.leaves[k]?.getD 0)):=fun p=>by rw [p.h.cell (p:=⟨b4,o4+k,none⟩) hb4];exact l4
   have hs:=Bs.out k
   rw [← Hz.out] at hs
   have hw:=Wt.out k
   have hzi:=Bi.out k
   rw [← Hz.out] at hzi
   have Sz:Hid (∀ p:BelW wr.heap.size wr,0<(fwAt g.fair.flows k).sizes.length→∃ b8 o8,ak=some ⟨b8,o8,none⟩∧p.w'.cell? ⟨b8,o8,none⟩=some (.int .i64 (szAt (fwAt g.fair.flows k).sizes 0))):=fun p h0=>by
    obtain ⟨b8,o8,ha8,hb8,q8⟩:=(hin.below p.h) 0 h0
    exact ⟨b8,o8,ha8,by simpa [szAt] using q8⟩
   have Nx:Hid (∀ W,Below wr.heap.size wr W→Below W0.heap.size W0 W):=fun W q=>HK.out.trans (q.mono HK.out.size)
   generalize (fwAt g.fair.flows k).sizes.length=m at e2 hw Sz
   generalize szAt (fwAt g.fair.flows k).sizes 0=s0 at C1 Sz
   generalize g.leaves[k]?.getD 0=lf at C1 dl
   have C1':Hid _:=C1
   have hmf:True:=trivial
   simp only [ha7] at c11 d11 C2 Kp
   simp only [ha4] at d6
   have C2':Hid _:=C2
   have Cz:Hid (∀ b':Nat,z=(b':Int)→∀ W,FwsAt W (some ⟨b7,o7,none⟩) g.fair.flows→Calls Tryz.prog 78 #[.agg #[.int .i64 g.fair.now,.slice (some ⟨b7,o7,none⟩) g.fair.flows.length x.c7],.int .i64 z] W fun e w'=>e = .returned (.int .i64 (g.fair.beg z.toNat))∧Below W.heap.size W w'):=fun b' e W hF=>by
    have hb':b'<g.fair.flows.length:=by omega
    have q:=Bg.out b' hb' W
    simp only [ha7] at q
    rw [e,Int.toNat_natCast]
    exact q hF
   clear C1 C2 l4 hin ha7 ha4 hb7 hb4 V
   haveI:Nonempty (BelW wr.heap.size wr):=⟨⟨wr,Below.refl _ _⟩⟩
   go_upto_region 6 with fail
   by_cases hm:m=0
   ·subst hm
    have F1:Hid (z=g.fair.bestP g.may (k+1)):=by show z=_;rw [hs,hw];simp
    clear hs hw Sz
    refine rgb wr.heap.size (by kernel_rfl) (by kernel_rfl) ?_
    repeat (go_big_quiet_step (fail))
    refine wpQuiet_nil ?_
    intro W2 hx
    have K2:Hid _:=Nx.out W2 (BelW.out hx)
    clear hx
    go_wp2
    go_roundw
    case rel=>exact ⟨k+1,z,by omega,by go_num,rfl,F1,K2⟩
    case measure=>simp [intOf];omega
   have hm1:0<m:=by omega
   have hm2:(0:Int)<(m:Int):=by omega
   obtain ⟨b8,o8,ha8,-⟩:=Sz.out ⟨wr,Below.refl _ _⟩ hm1
   subst ha8
   have ds:∀ p:BelW wr.heap.size wr,p.w'.cell? ⟨b8,o8,none⟩=some (.int .i64 s0):=fun p=>by
    obtain ⟨b9,o9,e9,q9⟩:=Sz.out p hm1
    cases e9
    exact q9
   rw [decide_eq_true hm1] at hw
   have C1w:Hid _:=C1'.out hw
   clear C1'
   rw [hw,Bool.true_and] at hs
   have Hs:Hid _:=hs
   clear hs hw Sz
   generalize g.may k=my at C1w Hs
   cases my
   ·have F1:Hid (z=g.fair.bestP g.may (k+1)):=by show z=_;rw [Hs.out];rfl
    clear Hs
    refine rgb wr.heap.size (by kernel_rfl) (by kernel_rfl) ?_
    repeat (go_big_quiet_step (first|(go_at_call 77;with_reducible refine qb (C1w.out _ (Kp.out _).1))|(go_at_call 78;with_reducible refine qb (C2'.out _ (Kp.out _).2))))
    refine wpQuiet_nil ?_
    intro W2 hx
    have K2:Hid _:=Nx.out W2 (BelW.out hx)
    clear hx
    go_wp2
    go_roundw
    case rel=>exact ⟨k+1,z,by omega,by go_num,rfl,F1,K2⟩
    case measure=>simp [intOf];omega
   have hs2:=Hs.out
   rw [Bool.true_and] at hs2
   clear Hs
   by_cases hz0:z<0
   ·have F1:Hid ((k:Int)=g.fair.bestP g.may (k+1)):=by show (k:Int)=_;rw [hs2,decide_eq_true hz0];rfl
    clear hs2
    refine rgb wr.heap.size (by kernel_rfl) (by kernel_rfl) ?_
    repeat (go_big_quiet_step (first|(go_at_call 77;with_reducible refine qb (C1w.out _ (Kp.out _).1))|(go_at_call 78;with_reducible refine qb (C2'.out _ (Kp.out _).2))))
    refine wpQuiet_nil ?_
    intro W2 hx
    have K2:Hid _:=Nx.out W2 (BelW.out hx)
    clear hx
    go_wp2
    go_roundw
    case rel=>exact ⟨k+1,k,by omega,by go_num,rfl,F1,K2⟩
    case measure=>simp [intOf];omega
   obtain ⟨b',eb⟩:∃ b':Nat,z=(b':Int):=⟨z.toNat,by omega⟩
   have Cz':Hid _:=Cz.out b' eb
   rw [decide_eq_false hz0,Bool.false_or] at hs2
   generalize g.fair.beg z.toNat=gz at Cz' hs2
   generalize g.fair.beg k=gk at C2' hs2
   by_cases hlz:gk<gz
   ·have F1:Hid ((k:Int)=g.fair.bestP g.may (k+1)):=by show (k:Int)=_;rw [hs2,decide_eq_true hlz];rfl
    clear hs2 eb
    refine rgb wr.heap.size (by kernel_rfl) (by kernel_rfl) ?_
    repeat (go_big_quiet_step (first|(go_at_call 77;with_reducible refine qb (C1w.out _ (Kp.out _).1))|(go_at_call 78;with_reducible refine qb (C2'.out _ (Kp.out _).2))|(go_at_call 78;with_reducible refine qb (Cz'.out _ (Kp.out _).2))))
    refine wpQuiet_nil ?_
    intro W2 hx
    have K2:Hid _:=Nx.out W2 (BelW.out hx)
    clear hx
    go_wp2
    go_roundw
    case rel=>exact ⟨k+1,k,by omega,by go_num,rfl,F1,K2⟩
    case measure=>simp [intOf];omega
   ·have F1:Hid (z=g.fair.bestP g.may (k+1)):=by show z=_;rw [hs2,decide_eq_false hlz];rfl
    clear hs2 eb
    refine rgb wr.heap.size (by kernel_rfl) (by kernel_rfl) ?_
    repeat (go_big_quiet_step (first|(go_at_call 77;with_reducible refine qb (C1w.out _ (Kp.out _).1))|(go_at_call 78;with_reducible refine qb (C2'.out _ (Kp.out _).2))|(go_at_call 78;with_reducible refine qb (Cz'.out _ (Kp.out _).2))))
    refine wpQuiet_nil ?_
    intro W2 hx
    have K2:Hid _:=Nx.out W2 (BelW.out hx)
    clear hx
    go_wp2
    go_roundw
    case rel=>exact ⟨k+1,z,by omega,by go_num,rfl,F1,K2⟩
    case measure=>simp [intOf];omega
  ·have hkn:k=n:=by omega
   subst hkn
   have Zb:Hid (z=g.best):=by show z=_;rw [Hz.out];unfold Gt.best;rw [Hn.out.1,HN.out]
   clear Bs Bi Wt Cn
   rcases g.best_is with e|⟨bb,e,h1,h2,h3⟩
   ·have hz:z = -1:=Zb.out.trans e
    have Ho:Hid (g.out=g∧g.outI=⟨0,0,0⟩∧g.outL = -1):=Gt.out_no (by unfold Gt.outB;rw [e];rfl)
    subst hz
    have e2:Hid (Below w.heap.size w (wr.setRow R zi)):=below_setRow Bx.out.2.2 (by rw [HR.out];exact Nat.le_refl _) _
    clear e Zb Hz
    go_upto_region 9 with fail
    go_wp2_with (refine wpList_store_row rfl 52 (.tmp 2) (.tmp 69) rfl R zi rfl rfl _ _ Bx.out.2.1 (by kernel_rfl) rfl (by simp [Value.oneCell']) ?_)
    refine bodyPost_ret (results_row_tmp Tryz.results24 _ _ R _ zi _ _ (.int .i64 (-1)) rfl rfl (setRow_heap wr R _ _ _ _ Bx.out.2.1) Tryz.underlying52 rfl (by kernel_rfl)) rfl ⟨by rw [Ho.out.2.1,Ho.out.2.2];rfl,⟨x,vs,rs,by rw [Ho.out.1];exact H0.out.below e2.out⟩,e2.out.mono Hb.out.1⟩
   have hz:z=(bb:Int):=Zb.out.trans e
   subst hz
   have k9:g.fair.ok=true:=(Gt.head_iff.1 (Gt.ok_iff.1 Hok.out).1).2.2.2.2.2.2.2.2.1
   have hwt:0<(fwAt g.fair.flows bb).sizes.length:=of_decide_eq_true h2
   obtain ⟨fk,fc,exv,fk1,fk2⟩:=Bx.out.1.own.fair.place (j:=bb) h1
   have ea7:x.a7=some ⟨fk,0,none⟩:=(Value.slice.inj exv).1
   have F1:FwG b (.slice (some ⟨fk,0,none⟩) g.fair.flows.length x.c7) rs g.fair.flows wr:=by rw [← ea7];exact Bx.out.1.own.fair
   obtain ⟨-,-,dF,-⟩:=F1.cells h1
   obtain ⟨sa,sc,ehd⟩:=(Bx.out.1.own.fair.row bb h1).shape
   have hrow:=Bx.out.1.own.fair.row bb h1
   rw [ehd] at hrow dF
   obtain ⟨b8,o8,ha8,hb8,d8⟩:=hrow.ints 0 hwt
   have hs1:=(Fw.ok_iff.1 (Fs.ok_at k9 h1)).2.2.2 _ (szAt_mem (j:=0) hwt)
   have Sv:Hid (Calls Tryz.prog 79 #[.pointer (some ⟨B,10,none⟩),.int .i64 (bb:Int)] wr fun e w'=>e = .returned (.bool (decide (g.fair.endOf bb≤1125899906842624)))∧SvG B b (.slice x.a7 g.fair.flows.length x.c7) g.fair.flows.length rs (if g.fair.endOf bb≤1125899906842624 then g.fair.serve bb else g.fair) wr w'):=specServeG g.fair b B (.slice x.a7 g.fair.flows.length x.c7) rs bb wr k9 h1 h2 Bx.out.1.own.fair ⟨Bx.out.1.box.cell 10 rfl,Bx.out.1.box.cell 11 rfl,Bx.out.1.box.ice 10,Bx.out.1.box.under⟩ ⟨gate_off Bx.out.1.box Bx.out.1.own.fair.outer (by decide),fun i hi=>gate_off Bx.out.1.box (Bx.out.1.own.fair.row i hi) (by decide)⟩ (Nat.le_trans Hb.out.1 Bx.out.2.2.size)
   have c11:wr.cell? ⟨B,11,none⟩=some (.slice x.a7 g.fair.flows.length x.c7):=Bx.out.1.box.cell 11 rfl
   rw [ea7] at c11
   subst ha8
   have hszs:szAt (fwAt g.fair.flows bb).sizes 0=(fwAt g.fair.flows bb).sizes[0]?.getD 0:=by simp [szAt]
   have S0:Hid (∃ s0,(fwAt g.fair.flows bb).sizes[0]?.getD 0=s0∧szAt (fwAt g.fair.flows bb).sizes 0=s0):=⟨_,rfl,hszs⟩
   obtain ⟨s0,es0,es1⟩:=S0.out
   rw [es0] at d8
   have Es:Hid (szAt (fwAt g.fair.flows bb).sizes 0=s0):=es1
   clear es0 es1 S0 hszs
   generalize hmm:(fwAt g.fair.flows bb).sizes.length=m at dF hwt
   have Hm:Hid ((fwAt g.fair.flows bb).sizes.length=m):=hmm
   have hm2:(0:Int)<(m:Int):=by omega
   have hb2:(bb:Int)<(g.fair.flows.length:Int):=by omega
   have hbn:¬ (bb:Int)<0:=by omega
   have Ea7:Hid (x.a7=some ⟨fk,0,none⟩∧(fwrAt rs bb).hd = .slice (some ⟨b8,o8,none⟩) m sc):=⟨ea7,by rw [← hmm];exact ehd⟩
   clear hmm ehd ea7 exv hrow
   simp only [Nat.add_zero] at d8
   have HB:Hid (B<R):=by show B<R;rw [HR.out];exact H0.out.box.under
   have HI:Hid (∀ i k,i<g.rows.lists.length→(izV vs i).ownBlock=some k→k≠R):=fun i k hi hk=>by
    have:=(World.ownsRow.lt (H0.out.own.rows.row i hi) k hk).2
    rw [← HR.out] at this
    omega
   have Vo:Hid ((Value.slice x.a7 g.fair.flows.length x.c7).ownBlock≠some R):=row_off Bx.out.1.own.fair.outer Bx.out.2.1 (by decide)
   have Bel:Hid (∀ ws,FrG B (.slice x.a7 g.fair.flows.length x.c7) wr ws→Below b w ws∧Boxed ws R zi 52):=fun ws s=>by
    have h5:=Bx.out.2.1
    have q:Below b wr ws:=⟨s.bel.os,s.bel.tape,s.bel.output,s.bel.size,fun k hk=>s.block k (by have:=Bx.out.2.2.size;have:=Hb.out.1;omega) (by have:=Hb.out.2;omega) (fun e=>by rw [Ea7.out.1] at e;cases e;exact absurd (show fk<b from hk) (by omega))⟩
    exact ⟨(Bx.out.2.2.mono Hb.out.1).trans q,(s.block R h5.under (by have:=HB.out;omega) Vo.out).trans h5⟩
   have Ho:Hid ((¬ g.fair.endOf bb≤1125899906842624→g.out=g∧g.outI=⟨0,0,0⟩∧g.outL = -1)∧(g.fair.endOf bb≤1125899906842624→g.out=g.go bb∧g.outI=itAt (izAt g.rows.lists bb) 0∧g.outL=(bb:Int))):=by
    refine ⟨fun hn=>Gt.out_no ?_,fun hy=>?_⟩
    ·unfold Gt.outB
     rw [e,Int.toNat_natCast,decide_eq_false hn,Bool.and_false]
    ·have h0:=Gt.out_yes (g:=g) (by unfold Gt.outB;rw [e,Int.toNat_natCast,decide_eq_true hy,decide_eq_true (by omega)];rfl)
     rw [e,Int.toNat_natCast] at h0
     exact h0
   have He:Hid (g.best=(bb:Int)):=e
   clear e Zb Hz
   generalize hdl:decide (g.fair.endOf bb≤1125899906842624)=dl at Sv
   have Hdl:Hid (decide (g.fair.endOf bb≤1125899906842624)=dl):=hdl
   clear hdl
   go_upto_region 11 with fail
   go_wp2_with fail
   refine Sv.out.mono ?_
   rintro e ws ⟨rfl,sv⟩
   have SV:Hid _:=sv
   clear sv Sv
   cases dl
   ·have hno:¬ g.fair.endOf bb≤1125899906842624:=of_decide_eq_false Hdl.out
    have S1:=SV.out
    rw [if_neg hno] at S1
    obtain ⟨rs',G1⟩:=Bx.out.1.served (z:=g.fair) rfl S1
    obtain ⟨y1,y2⟩:=Bel.out ws S1.2.2
    have Y:Hid (GtB b B ws x vs rs' g∧Below b w ws∧Boxed ws R zi 52∧g.out=g∧g.outI=⟨0,0,0⟩∧g.outL = -1):=⟨G1,y1,y2,Ho.out.1 (by first|exact hno|omega)⟩
    clear S1 G1 y1 y2 SV Ho hno
    go_upto_region 12 with fail
    go_wp2_with (refine wpList_store_row rfl 52 (.tmp 2) (.tmp 87) rfl R zi rfl rfl _ _ Y.out.2.2.1 (by kernel_rfl) rfl (by simp [Value.oneCell']) ?_)
    refine bodyPost_ret (results_row_tmp Tryz.results24 _ _ R _ zi _ _ (.int .i64 (-1)) rfl rfl (setRow_heap ws R _ _ _ _ Y.out.2.2.1) Tryz.underlying52 rfl (by kernel_rfl)) rfl ⟨by rw [Y.out.2.2.2.2.1,Y.out.2.2.2.2.2];rfl,⟨x,vs,rs',by rw [Y.out.2.2.2.1];exact Y.out.1.beside Y.out.2.2.1 HI.out (fun k hk _=>setRow_other _ _ _ _ hk)⟩,below_setRow Y.out.2.1 (by have:=Hb.out.1;rw [HR.out];exact this) _⟩
   have hyes:g.fair.endOf bb≤1125899906842624:=of_decide_eq_true Hdl.out
   have S1:=SV.out
   rw [if_pos hyes] at S1
   obtain ⟨rs',G1⟩:=Bx.out.1.served (z:=g.fair.serve bb) (by show (g.fair.flows.set bb _).length=_;rw [List.length_set]) S1
   obtain ⟨y1,y2⟩:=Bel.out ws S1.2.2
   have Y:Hid (GtB b B ws x vs rs' { g with fair:=g.fair.serve bb }∧Below b w ws∧Boxed ws R zi 52∧g.out=g.go bb∧g.outI=itAt (izAt g.rows.lists bb) 0∧g.outL=(bb:Int)):=⟨G1,y1,y2,Ho.out.2 (by first|exact hyes|omega)⟩
   clear S1 G1 y1 y2 SV Ho hyes
   obtain ⟨pt,hpt⟩:∃ l,payP g.tree s0 (path g.tree (g.leaves[bb]?.getD 0))=l:=⟨_,rfl⟩
   have Hpt:Hid (payP g.tree s0 (path g.tree (g.leaves[bb]?.getD 0))=pt∧pt.length=g.tree.length):=⟨hpt,by rw [← hpt];exact payP_len _ _ _⟩
   clear hpt
   obtain ⟨tk,ea3⟩:∃ tk,x.a3=some ⟨tk,0,none⟩:=by
    rcases Y.out.1.own.tree.2 with ⟨_,e⟩|⟨g',cap',cur',e,_⟩
    ·have:=Hn.out.2.2.2.2.2.1
     have e':g.tree.length=0:=e
     omega
    ·exact ⟨g',(Value.slice.inj e).1⟩
   have Ea3:Hid (x.a3=some ⟨tk,0,none⟩):=ea3
   obtain ⟨b4,o4,ha4,hb4,l4⟩:=Y.out.1.own.at.leaves.spot' bb (by show bb<g.leaves.length;rw [← Hn.out.1];exact h1)
   have l4':ws.cell? ⟨b4,o4+bb,none⟩=some (.int .i64 (g.leaves[bb]?.getD 0)):=l4
   have cB5:ws.cell? ⟨B,5,none⟩=some (.slice x.a3 g.tree.length x.c3):=Y.out.1.box.cell 5 rfl
   have cB6:ws.cell? ⟨B,6,none⟩=some (.slice x.a4 g.leaves.length x.c4):=Y.out.1.box.cell 6 rfl
   rw [ea3] at cB5
   rw [ha4] at cB6
   have hbl:(bb:Int)<(g.leaves.length:Int):=by have:=Hn.out.1;omega
   have Pay:Hid (Calls Tryz.prog 80 #[.slice (some ⟨tk,0,none⟩) g.tree.length x.c3,.int .i64 (g.leaves[bb]?.getD 0),.int .i64 s0] ws.drew fun e w'=>e = .returned (.tuple #[])∧NdRow b w' (.slice (some ⟨tk,0,none⟩) g.tree.length x.c3) pt∧Below b ws.drew w'∧∀ k,k≠tk→k<ws.drew.heap.size→w'.heap[k]? = ws.drew.heap[k]?):=by
    have h4:=h3
    unfold Gt.may at h4
    rw [Es.out] at h4
    have hr:NdRow b ws.drew (.slice (some ⟨tk,0,none⟩) g.tree.length x.c3) g.tree:=by rw [← ea3];exact (Y.out.1.own.tree:NdRow b ws _ _).drew
    have q:=specPayO b tk x.c3 g.tree (g.leaves[bb]?.getD 0) s0 ws.drew h4 hr (Nat.le_trans Hb.out.1 (Nat.le_trans Y.out.2.1.size nlr))
    rw [Hpt.out.1] at q
    exact q
   have Put:Hid (∀ W,NdRow b W (.slice (some ⟨tk,0,none⟩) g.tree.length x.c3) pt→Below b ws.drew W→(∀ k,k≠tk→k<ws.drew.heap.size→W.heap[k]? = ws.drew.heap[k]?)→GtB b B W x vs rs' { g with fair:=g.fair.serve bb,tree:=pt }∧Below b w W∧Boxed W R zi 52):=fun W r q1 q2=>by
    have htk:tk<R:=by
     have:=(H0.out.own.tree:NdRow b w (.slice x.a3 g.tree.length x.c3) g.tree).lt tk (by rw [Ea3.out];rfl)
     rw [HR.out]
     exact this.2
    refine ⟨?_,Y.out.2.1.trans ((Below.refl b ws).drew.trans q1),(q2 R (by omega) Y.out.2.2.1.under).trans Y.out.2.2.1⟩
    exact GtB.putTree (g:={ g with fair:=g.fair.serve bb }) (l:=g.tree) (l':=pt) (Y.out.1.below (Below.refl _ ws).drew) Hpt.out.2 Ea3.out (by rw [Hpt.out.2];exact r) q2
   clear Bel l4 ea3 ha4 c11 dF d8
   go_upto_region 13 with fail
   go_cut [] (fun wc=>Hid (GtB b B wc x vs rs' { g with fair:=g.fair.serve bb,tree:=pt }∧Below b w wc∧Boxed wc R zi 52))
   case first =>
    generalize g.leaves[bb]?.getD 0=lf at l4' Pay
    go_region_law (refine stepCall rfl 80 rfl #[.slice (some ⟨tk,0,none⟩) g.tree.length x.c3,.int .i64 lf,.int .i64 s0] (by kernel_rfl) Pay.out ?_;rintro e wE ⟨rfl,r,q1,q2⟩;refine ⟨_,rfl,?_⟩;have P2:Hid _:=Put.out wE r q1 q2;clear r q1 q2)
    all_goals (go_wp2_with fail;go_meet;exact P2.out)
   case rest =>
   obtain ⟨wt,rfl⟩:∃ z,z=wc:=⟨_,rfl⟩
   have Y2:Hid (GtB b B wt x vs rs' { g with fair:=g.fair.serve bb,tree:=pt }∧Below b w wt∧Boxed wt R zi 52):=hcut
   have Ho2:Hid (g.out=g.go bb∧g.outI=itAt (izAt g.rows.lists bb) 0∧g.outL=(bb:Int)):=Y.out.2.2.2
   clear hcut Y Pay Put cB5 cB6 l4'
   have hlv:=Gt.leaf_iff.1 ((Gt.ok_iff.1 Hok.out).2 bb (by rw [← Hn.out.1];exact h1))
   have hbR:bb<g.rows.lists.length:=by rw [Hn.out.2.2.2.1,← Hn.out.1];exact h1
   obtain ⟨l,hl⟩:∃ l,izAt g.rows.lists bb=l:=⟨_,rfl⟩
   have hlm:l.length=m:=by rw [← hl,← hlv.2.2.2.1];exact Hm.out
   have hrw:=Y2.out.1.own.rows.row bb hbR
   have hrw:ItRow b wt (izV vs bb) l:=by rw [← hl];exact hrw
   obtain ⟨rk,ea5⟩:∃ rk,x.a5=some ⟨rk,0,none⟩:=by
    rcases Y2.out.1.own.rows.outer.2 with ⟨_,e⟩|⟨g',cap',cur',e,_⟩
    ·have e':g.rows.lists.length=0:=e
     omega
    ·exact ⟨g',(Value.slice.inj e).1⟩
   have ho:wt.ownsRow b 111 1 (.slice (some ⟨rk,0,none⟩) g.rows.lists.length x.c5) g.rows.lists.length vs:=by rw [← ea5];exact Y2.out.1.own.rows.outer
   have hlen:vs.length=g.rows.lists.length:=Y2.out.1.own.rows.len
   obtain ⟨la,lc,elv,hlc⟩:∃ la lc,izV vs bb = .slice (some ⟨la,0,none⟩) m lc∧m≤lc:=by
    rcases hrw.2 with ⟨_,e⟩|⟨g',cap',cur',e,_,_,hc,_⟩
    ·rw [hlm] at e
     omega
    ·rw [hlm] at e hc;exact ⟨g',cap',e,hc⟩
   have cL0:wt.cell? ⟨rk,bb,none⟩=some (.slice (some ⟨la,0,none⟩) m lc):=by
    rw [World.ownsRow.cellAt ho bb (by omega),← elv]
    unfold izV
    rw [List.getElem?_eq_getElem (by omega)]
    rfl
   have hits:Hid (ItsAt wt (some ⟨la,0,none⟩) l):=by
    have:=hrw
    rw [elv,← hlm] at this
    exact this.at
   have hlaR:Hid (la≠R):=HI.out bb la hbR (by rw [elv];rfl)
   obtain ⟨i0,i1,i2⟩:=hits.out.cells (k:=0) (by omega)
   obtain ⟨bq,oq,eq,hlaS,-⟩:=hits.out 0 (by omega)
   cases eq
   have cB80:wt.cell? ⟨B,8,none⟩=some (.slice (some ⟨rk,0,none⟩) g.rows.lists.length x.c5):=by rw [← ea5];exact Y2.out.1.box.cell 8 rfl
   have hic0:wt.frozen? ⟨rk,bb,none⟩=false:=World.ownsRow.frozenAt ho _
   have hrkl:rk<wt.heap.size:=(World.ownsRow.lt ho rk rfl).2
   have HrR:Hid (rk<R):=by
    have:=World.ownsRow.lt H0.out.own.rows.outer rk (by rw [ea5];rfl)
    rw [HR.out]
    exact this.2
   have HL:Hid (izAt g.rows.lists bb=l∧l.length=m∧x.a5=some ⟨rk,0,none⟩):=⟨hl,hlm,ea5⟩
   have hbr:(bb:Int)<(g.rows.lists.length:Int):=by omega
   generalize hit:itAt l 0=it at i0 i1 i2
   have Hit:Hid (itAt l 0=it):=hit
   obtain ⟨t0,t1,t2⟩:=it
   simp only [Nat.zero_mul,Nat.add_zero,Nat.zero_add] at i0 i1 i2
   have hrS:Hid (Below b w wt):=Y2.out.2.1
   have N:Hid (Boxed (wt.alloc (.cells zi 52)) wt.heap.size zi 52):=Boxed.new _ _ _
   have bN:Hid (Below wt.heap.size wt ((wt.alloc (.cells zi 52)).setRow wt.heap.size (ic t0 t1 t2))):=below_setRow ((Below.refl _ _).alloc nlr _) nlr _
   have Xb:Hid (Boxed ((wt.alloc (.cells zi 52)).setRow wt.heap.size (ic t0 t1 t2)) wt.heap.size (ic t0 t1 t2) 52):=setRow_heap _ _ _ _ _ _ N.out
   clear hlv hl hlm hrw ea5 hlen hit
   go_upto_region 15 with (refine wpList_store_row rfl 52 (.tmp 8) (.tmp 110) rfl wt.heap.size (ic t0 t1 t2) rfl rfl _ _ N.out (by kernel_rfl) rfl (by simp [Value.oneCell']) ?_)
   try simp only [Act.put]
   have cL:((wt.alloc (.cells zi 52)).setRow wt.heap.size (ic t0 t1 t2)).cell? ⟨rk,bb,none⟩=some (.slice (some ⟨la,0,none⟩) m lc):=by rw [bN.out.cell (p:=⟨rk,bb,none⟩) hrkl];exact cL0
   have cB8:((wt.alloc (.cells zi 52)).setRow wt.heap.size (ic t0 t1 t2)).cell? ⟨B,8,none⟩=some (.slice (some ⟨rk,0,none⟩) g.rows.lists.length x.c5):=by rw [bN.out.cell (p:=⟨B,8,none⟩) Y2.out.1.box.under];exact cB80
   have hice:((wt.alloc (.cells zi 52)).setRow wt.heap.size (ic t0 t1 t2)).frozen? ⟨rk,bb,none⟩=false:=by rw [ice_kept (bN.out.block rk hrkl)];exact hic0
   have Y3:Hid (GtB b B ((wt.alloc (.cells zi 52)).setRow wt.heap.size (ic t0 t1 t2)) x vs rs' { g with fair:=g.fair.serve bb,tree:=pt }∧Below b w ((wt.alloc (.cells zi 52)).setRow wt.heap.size (ic t0 t1 t2))∧Boxed ((wt.alloc (.cells zi 52)).setRow wt.heap.size (ic t0 t1 t2)) R zi 52∧b≤wt.heap.size):=⟨Y2.out.1.below bN.out,Y2.out.2.1.trans (bN.out.mono (Nat.le_trans Hb.out.1 Y2.out.2.1.size)),Y2.out.2.2.below Y2.out.2.2.under bN.out,Nat.le_trans Hb.out.1 Y2.out.2.1.size⟩
   have Hits:Hid (ItsAt ((wt.alloc (.cells zi 52)).setRow wt.heap.size (ic t0 t1 t2)) (some ⟨la,0,none⟩) l):=hits.out.below bN.out
   have hsw:Hid (rk<wt.heap.size∧R<wt.heap.size):=⟨hrkl,Y2.out.2.2.under⟩
   generalize (wt.alloc (.cells zi 52)).setRow wt.heap.size (ic t0 t1 t2)=wx at cL cB8 hice Y3 Xb Hits ⊢
   generalize wt.heap.size=X at Y3 Xb hsw ⊢
   clear bN N hits i0 i1 i2 cL0 cB80 hic0 hrkl ho Y2 hrS
   have hgl:rk<wx.heap.size:=by have:=hsw.out;have:=Xb.out.under;omega
   have hBs:B<wx.heap.size:=Y3.out.1.box.under
   have Set:Hid (∀ u w2,ItRow wx.heap.size w2 u (l.drop 1)→Below wx.heap.size wx w2→GtB b B (w2.setCell ⟨rk,bb,none⟩ u) x (vs.set bb u) rs' { g with fair:=g.fair.serve bb,tree:=pt,rows:=⟨g.rows.most,g.rows.lists.set bb (l.drop 1)⟩ }∧Below b w (w2.setCell ⟨rk,bb,none⟩ u)∧Boxed (w2.setCell ⟨rk,bb,none⟩ u) R zi 52∧Boxed (w2.setCell ⟨rk,bb,none⟩ u) X (ic t0 t1 t2) 52∧∀ k,u.ownBlock=some k→k≠R):=fun u w2 q1 q2=>by
    have hbx:b≤wx.heap.size:=by have:=Xb.out.under;have:=Y3.out.2.2.2;omega
    have oo:=hsw.out
    have hr2:=HrR.out
    refine ⟨?_,(Y3.out.2.1.trans (q2.mono hbx)).setCell ?_ _,?_,?_,fun k hk e=>?_⟩
    ·exact GtB.putRow (g:={ g with fair:=g.fair.serve bb,tree:=pt }) Y3.out.1 hbR (fun k _ hk=>q2.block k hk) (q1.mono hbx) (fun k hk=>.inr (q1.lt k hk).1) HL.out.2.2
    ·have:=(World.ownsRow.lt H0.out.own.rows.outer rk (by rw [HL.out.2.2];rfl)).1
     exact this
    ·exact (Y3.out.2.2.1.below Y3.out.2.2.1.under q2).far (by omega) _ _
    ·exact (Xb.out.below Xb.out.under q2).far (by omega) _ _
    ·have h9:=(q1.lt k hk).1
     have h10:=Xb.out.under
     omega
   obtain ⟨m',hmm'⟩:∃ m',m=m'+1:=⟨m-1,by omega⟩
   subst hmm'
   have Hml:Hid ((l.drop 1).length=m'):=by show (l.drop 1).length=m';rw [List.length_drop,HL.out.2.1];rfl
   have HT:Hid (ItsAt wx (some ⟨la,3,none⟩) (l.drop 1)):=by
    show ItsAt wx (some ⟨la,0+3,none⟩) (l.drop 1)
    exact ItsAt.tail Hits.out
   have hms:Hid (m'≤1048576):=by
    have q0:=ok_small (Gt.head_iff.1 (Gt.ok_iff.1 Hok.out).1).2.2.2.2.2.1
    have q1:=izSum_one hbR
    unfold Rw.big at q0
    rw [HL.out.1,HL.out.2.1] at q1
    show m'≤1048576
    omega
   have hpm:(1:Int)≤(m':Int)+1:=by omega
   have hpm2:(0:Int)≤(m':Int):=by omega
   go_cut [] (fun wc=>Hid (∃ u,GtB b B wc x (vs.set bb u) rs' { g with fair:=g.fair.serve bb,tree:=pt,rows:=⟨g.rows.most,g.rows.lists.set bb (l.drop 1)⟩ }∧Below b w wc∧Boxed wc R zi 52∧Boxed wc X (ic t0 t1 t2) 52∧∀ k,u.ownBlock=some k→k≠R))
   case first =>
    obtain ⟨q,hq⟩:∃ q,(if lc=1 then (some ⟨la,0,none⟩:Option Addr) else some ⟨la,3,none⟩)=q:=⟨_,rfl⟩
    have HQ:Hid (ItsAt wx q (l.drop 1)∧q≠none):=by
     rw [← hq]
     by_cases hck:lc=1
     ·rw [if_pos hck]
      refine ⟨?_,fun h=>by cases h⟩
      have h0:m'=0:=by omega
      show ItsAt _ _ _
      have h1:l.drop 1=[]:=List.eq_nil_of_length_eq_zero (by rw [Hml.out];exact h0)
      rw [h1]
      exact ItsAt.nil _ _
     ·rw [if_neg hck]
      exact ⟨HT.out,fun h=>by cases h⟩
    go_region_law (refine it_step_app rfl (.tmp 117) (.tmp 126) rfl wx.heap.size (.slice (some ⟨wx.heap.size,0,none⟩) 0 0) [] q m' (lc-1) (l.drop 1) Hml.out rfl rfl (it_built _ _ nlr) (HQ.out.1.alloc _) (fun h=>absurd h HQ.out.2) (by rw [Hml.out];have:=hms.out;simp only [List.length_nil];omega) (by simp) ?_;intro u w2 q1 q2 q3 q4;have q5:ItRow wx.heap.size w2 u (l.drop 1):=(by simpa using q1);obtain ⟨uy,ud,eu⟩:=q5.shape;rw [Hml.out] at eu;subst eu;have q6:Below wx.heap.size wx w2:=((Below.refl _ wx).drew.alloc nlr _).trans q2;have RR:Hid _:=Set.out _ w2 q5 q6;have f1:∃ y,w2.cell? ⟨rk,bb,none⟩=some y:=⟨_,by rw [q6.cell (p:=⟨rk,bb,none⟩) hgl];exact cL⟩;obtain ⟨y1,f1⟩:=f1;have f2:w2.cell? ⟨B,8,none⟩=some (.slice (some ⟨rk,0,none⟩) g.rows.lists.length x.c5):=(by rw [q6.cell (p:=⟨B,8,none⟩) hBs];exact cB8);have f3:w2.frozen? ⟨rk,bb,none⟩=false:=(by rw [ice_kept (q6.block rk hgl)];exact hice);have l2:B<w2.heap.size:=Nat.lt_of_lt_of_le hBs q6.size;have l3:rk<w2.heap.size:=Nat.lt_of_lt_of_le hgl q6.size;clear q1 q2 q3 q4 q5 q6)
    all_goals (go_wp2_with fail;go_meet;exact ⟨_,RR.out⟩)
   case rest =>
   obtain ⟨wy,rfl⟩:∃ z,z=wc:=⟨_,rfl⟩
   obtain ⟨u,hY4⟩:=hcut.out
   have Y4:Hid _:=hY4
   clear hcut hY4 Y3 Set Xb cL cB8 hice Hits HT
   obtain ⟨xg,hxg⟩:∃ z,z=x:=⟨_,rfl⟩
   subst hxg
   obtain ⟨sk,ea6⟩:∃ sk,xg.a6=some ⟨sk,0,none⟩:=by
    rcases Y4.out.1.own.steers.2 with ⟨_,e⟩|⟨g',cap',cur',e,_⟩
    ·have:=Hn.out.2.2.2.2.1
     have e':g.steers.length=0:=e
     omega
    ·exact ⟨g',(Value.slice.inj e).1⟩
   have Ea6:Hid (xg.a6=some ⟨sk,0,none⟩):=ea6
   have hbs:bb<g.steers.length:=by rw [Hn.out.2.2.2.2.1,← Hn.out.1];exact h1
   have nums:=out_nums Hok.out hbR (by rw [HL.out.1,HL.out.2.1];omega)
   rw [HL.out.1,Hit.out] at nums
   simp only at nums
   have htm:(ndAt pt 0).pz.tm=(ndAt g.tree 0).pz.tm:=by rw [← Hpt.out.1];exact payP_tm _ _ _ _
   obtain ⟨tm,hte⟩:∃ z,(ndAt g.tree 0).pz.tm=z:=⟨_,rfl⟩
   rw [hte] at nums htm
   obtain ⟨⟨u0,u1⟩,u2,u3⟩:=nums
   have kw:IntKind.i64.wrap (tm-t2)=tm-t2:=by rw [IntKind.wrap_i64];omega
   obtain ⟨d,hd⟩:∃ z,max 0 (min 100000 (tm-t2))=z:=⟨_,rfl⟩
   obtain ⟨st,hst⟩:∃ z,srAt g.steers bb=z:=⟨_,rfl⟩
   obtain ⟨sq,hsq⟩:∃ z,st.stir d=z:=⟨_,rfl⟩
   have hsok:st.ok=true:=by
    rw [← hst]
    exact (Gt.leaf_iff.1 ((Gt.ok_iff.1 Hok.out).2 bb (by rw [← Hn.out.1];exact h1))).2.2.1
   have hdi:inB 0 100000 d=true:=by rw [inB_true];omega
   have A16:=fun W=>specStir st d W hsok hdi
   have A17:=fun W=>specMin 100000 (tm-t2) W
   have A18:=fun W=>specMaxN 0 (min 100000 (tm-t2)) W
   rw [hsq] at A16
   rw [hd] at A18
   generalize min 100000 (tm-t2)=dm at A17 A18
   have Fin:Hid ({ g with fair:=g.fair.serve bb,tree:=pt,rows:=⟨g.rows.most,g.rows.lists.set bb (l.drop 1)⟩,steers:=g.steers.set bb sq }=g.go bb):=by
    show _=_
    rw [← hsq,← hst]
    exact go_is Es.out Hpt.out.1 HL.out.1 Hit.out (by rw [hte];exact hd.symm)
   have hst':srAt g.steers bb=st:=hst
   obtain ⟨p0,p1,p2⟩:=st
   obtain ⟨q0,q1,q2⟩:=sq
   simp only [Sr.val] at A16
   have A16':Hid _:=A16
   have A17':Hid _:=A17
   have A18':Hid _:=A18
   obtain ⟨nt,hnt⟩:∃ z,g.tree.length=z+1:=⟨g.tree.length-1,by have:=Hn.out.2.2.2.2.2.1;omega⟩
   have RY:Hid (∀ z:World,Below wy.heap.size wy z→z.cell? ⟨B,9,none⟩=some (.slice (some ⟨sk,0,none⟩) g.steers.length xg.c6)∧z.cell? ⟨B,5,none⟩=some (.slice (some ⟨tk,0,none⟩) (nt+1) xg.c3)∧z.cell? ⟨tk,4,none⟩=some (.int .i64 tm)∧z.cell? ⟨X,2,none⟩=some (.int .i64 t2)∧(z.cell? ⟨sk,bb*3,none⟩=some (.int .i64 p0)∧z.cell? ⟨sk,bb*3+1,none⟩=some (.int .i64 p1)∧z.cell? ⟨sk,bb*3+2,none⟩=some (.int .i64 p2))∧(z.frozen? ⟨sk,bb*3,none⟩=false∧z.frozen? ⟨sk,bb*3+1,none⟩=false∧z.frozen? ⟨sk,bb*3+2,none⟩=false)∧GtB b B z xg (vs.set bb u) rs' { g with fair:=g.fair.serve bb,tree:=pt,rows:=⟨g.rows.most,g.rows.lists.set bb (l.drop 1)⟩ }∧Below b w z∧Boxed z R zi 52∧Boxed z X (ic t0 t1 t2) 52∧sk<z.heap.size):=fun z q=>by
    have gz:=Y4.out.1.below q
    have sz:z.ownsRow b 114 3 (.slice (some ⟨sk,0,none⟩) g.steers.length xg.c6) g.steers.length (srcells g.steers):=by
     have:=gz.own.steers
     rw [← Ea6.out]
     exact this
    have cz:=(SrRow.at (show SrRow b z (.slice (some ⟨sk,0,none⟩) g.steers.length xg.c6) g.steers from sz)).cells hbs
    rw [hst'] at cz
    simp only [Nat.zero_add] at cz
    have tz:=gz.own.at.tree.spot' 0 (by show 0<pt.length;rw [Hpt.out.2,hnt];omega)
    obtain ⟨tb,tof,te,-,-,-,-,-,t4⟩:=tz
    have te':(some ⟨tk,0,none⟩:Option Addr)=some ⟨tb,tof,none⟩:=by rw [← Ea3.out];exact te
    cases te'
    have t4':z.cell? ⟨tk,4,none⟩=some (.int .i64 (ndAt pt 0).pz.tm):=by simpa using t4
    rw [htm] at t4'
    have xz:Boxed z X (ic t0 t1 t2) 52:=Y4.out.2.2.2.1.below Y4.out.2.2.2.1.under q
    refine ⟨?_,?_,t4',xz.cell 2 rfl,cz,⟨World.ownsRow.frozenAt sz _,World.ownsRow.frozenAt sz _,World.ownsRow.frozenAt sz _⟩,gz,Y4.out.2.1.trans (q.mono (Nat.le_trans Hb.out.1 Y4.out.2.1.size)),Y4.out.2.2.1.below Y4.out.2.2.1.under q,xz,(World.ownsRow.lt sz sk rfl).2⟩
    ·rw [← Ea6.out];exact gz.box.cell 9 rfl
    ·have:=gz.box.cell 5 (show _=some (Value.slice xg.a3 pt.length xg.c3) from rfl)
     rw [Hpt.out.2,hnt,Ea3.out] at this
     exact this
   have ht0:(0:Int)<(nt:Int)+1:=by omega
   have hbi:(bb:Int)<(g.steers.length:Int):=by omega
   have Hsk:Hid (b≤sk∧sk≠R∧sk≠X):=by
    have hz:=(RY.out wy (Below.refl _ _))
    have sz:wy.ownsRow b 114 3 (.slice (some ⟨sk,0,none⟩) g.steers.length xg.c6) g.steers.length (srcells g.steers):=by
     have:=hz.2.2.2.2.2.2.1.own.steers
     rw [← Ea6.out]
     exact this
    exact ⟨(World.ownsRow.lt sz sk rfl).1,fun e=>row_off sz hz.2.2.2.2.2.2.2.2.1 (by decide) (by rw [← e];rfl),fun e=>row_off sz hz.2.2.2.2.2.2.2.2.2.1 (by decide) (by rw [← e];rfl)⟩
   clear hst' hst hsq hte htm hd hnt hsok hdi A16 A17 A18 ea6 hbs
   go_upto_region 16 with fail
   refine region_lists (G:=Unit) (by kernel_rfl) (by kernel_rfl) (by kernel_rfl) (fun i=>99) (fun (L:Nat→Bool) (_:Unit) (z:World)=>(L 27=false→Below wy.heap.size wy z)∧(L 27=true→GtB b B z xg (vs.set bb u) rs' (g.go bb)∧Below b w z∧Boxed z R zi 52∧Boxed z X (ic t0 t1 t2) 52)) (fun i (_:Unit) z (_:Unit) z'=>True) (fun i y x u=>([fun _ _ u=>u = .pointer (some ⟨B,0,none⟩),fun _ _ u=>u = .pointer (some ⟨B,0,none⟩),fun _ _ u=>u = .pointer (some ⟨B,9,none⟩),fun _ _ u=>u = .slice (some ⟨sk,0,none⟩) g.steers.length xg.c6,fun _ _ u=>u = .int .i64 bb,fun _ _ u=>u = .pointer (some ⟨B,0,none⟩),fun _ _ u=>u = .pointer (some ⟨B,0,none⟩),fun _ _ u=>u = .pointer (some ⟨B,9,none⟩),fun _ _ u=>u = .slice (some ⟨sk,0,none⟩) g.steers.length xg.c6,fun _ _ u=>u = .int .i64 bb,fun _ _ u=>u = .pointer (some ⟨sk,bb*3,none⟩),fun _ _ u=>u = .agg (ic p0 p1 p2),fun _ _ u=>u = .pointer (some ⟨B,0,none⟩),fun _ _ u=>u = .pointer (some ⟨B,0,none⟩),fun _ _ u=>u = .pointer (some ⟨B,5,none⟩),fun _ _ u=>u = .slice (some ⟨tk,0,none⟩) (nt+1) xg.c3,fun _ _ u=>u = .pointer (some ⟨tk,0,none⟩),fun _ _ u=>u = .pointer (some ⟨tk,1,none⟩),fun _ _ u=>u = .pointer (some ⟨tk,4,none⟩),fun _ _ u=>u = .int .i64 tm,fun _ _ u=>u = .pointer (some ⟨X,2,none⟩),fun _ _ u=>u = .int .i64 t2,fun _ _ u=>u = .int .i64 (tm-t2),fun _ _ u=>u = .int .i64 dm,fun _ _ u=>u = .int .i64 d,fun _ _ u=>u = .agg (ic q0 q1 q2),fun _ _ u=>u = .pointer (some ⟨sk,bb*3,none⟩),fun _ _ _=>True]:List (Unit→World→Value→Prop)).getD i (fun _ _ _=>True) y x u) ?hR () ?h0 ?step ?last
   case hR =>
    intro i j y y' x x' u hi hj hne hu h1 h2 hp hr
    have hi':i<28:=hi
    have hj':j<28:=hj
    have hcases:j=0∨j=1∨j=2∨j=3∨j=4∨j=5∨j=6∨j=7∨j=8∨j=9∨j=10∨j=11∨j=12∨j=13∨j=14∨j=15∨j=16∨j=17∨j=18∨j=19∨j=20∨j=21∨j=22∨j=23∨j=24∨j=25∨j=26∨j=27:=by omega
    rcases hcases with rfl|rfl|rfl|rfl|rfl|rfl|rfl|rfl|rfl|rfl|rfl|rfl|rfl|rfl|rfl|rfl|rfl|rfl|rfl|rfl|rfl|rfl|rfl|rfl|rfl|rfl|rfl|rfl
    ·exact hp
    ·exact hp
    ·exact hp
    ·exact hp
    ·exact hp
    ·exact hp
    ·exact hp
    ·exact hp
    ·exact hp
    ·exact hp
    ·exact hp
    ·exact hp
    ·exact hp
    ·exact hp
    ·exact hp
    ·exact hp
    ·exact hp
    ·exact hp
    ·exact hp
    ·exact hp
    ·exact hp
    ·exact hp
    ·exact hp
    ·exact hp
    ·exact hp
    ·exact hp
    ·exact hp
    ·exact hp
   case h0=>exact ⟨fun _=>(Below.refl _ _).drew,fun h=>by simp at h⟩
   case step =>
    intro i o hi ho L a' y x hLi hwt hre hkp hI hp
    have s0:a'.tmps[0]?.getD undef = .pointer (some ⟨B,0,none⟩):=tq (hkp.slot 0 (by kernel_rfl))
    have s4:a'.tmps[4]?.getD undef = .int .i64 bb:=tq (hkp.slot 4 (by kernel_rfl))
    have s8:a'.tmps[8]?.getD undef = .pointer (some ⟨X,0,none⟩):=tq (hkp.slot 8 (by kernel_rfl))
    have hi':i<28:=hi
    have hcases:i=0∨i=1∨i=2∨i=3∨i=4∨i=5∨i=6∨i=7∨i=8∨i=9∨i=10∨i=11∨i=12∨i=13∨i=14∨i=15∨i=16∨i=17∨i=18∨i=19∨i=20∨i=21∨i=22∨i=23∨i=24∨i=25∨i=26∨i=27:=by omega
    rcases hcases with rfl|rfl|rfl|rfl|rfl|rfl|rfl|rfl|rfl|rfl|rfl|rfl|rfl|rfl|rfl|rfl|rfl|rfl|rfl|rfl|rfl|rfl|rfl|rfl|rfl|rfl|rfl|rfl
    ·cases ho
     exact rs_val rfl (fun h=>by cases h) (.pointer (some ⟨B,0,none⟩)) y (by simp [go_sem,s0]) trivial (⟨fun h=>hI.1 (by simpa using h),fun h=>hI.2 (by simpa using h)⟩) rfl
    ·cases ho
     have q0:a'.tmps[129]?.getD undef = .pointer (some ⟨B,0,none⟩):=tq (hp 0 (od (by kernel_rfl)) (.inr (by decide)))
     exact rs_val rfl (fun h=>by cases h) (.pointer (some ⟨B,0,none⟩)) y (by simp [go_sem,q0]) trivial (⟨fun h=>hI.1 (by simpa using h),fun h=>hI.2 (by simpa using h)⟩) rfl
    ·cases ho
     have q1:a'.tmps[130]?.getD undef = .pointer (some ⟨B,0,none⟩):=tq (hp 1 (od (by kernel_rfl)) (.inr (by decide)))
     exact rs_val rfl (fun h=>by cases h) (.pointer (some ⟨B,9,none⟩)) y (by simp [go_sem,q1]) trivial (⟨fun h=>hI.1 (by simpa using h),fun h=>hI.2 (by simpa using h)⟩) rfl
    ·cases ho
     have n27:=hre 27 (by decide +kernel)
     have hB:=hI.1 n27
     obtain ⟨f9,f5,ftm,fx2,⟨fs0,fs1,fs2⟩,⟨fz0,fz1,fz2⟩,fgb,fbel,fR,fX,fsk⟩:=RY.out x hB
     have q2:a'.tmps[131]?.getD undef = .pointer (some ⟨B,9,none⟩):=tq (hp 2 (od (by kernel_rfl)) (.inr (by decide)))
     exact rs_val rfl (fun h=>by cases h) (.slice (some ⟨sk,0,none⟩) g.steers.length xg.c6) y (by simp [go_sem,q2,f9]) trivial (⟨fun h=>hI.1 (by simpa using h),fun h=>hI.2 (by simpa using h)⟩) rfl
    ·cases ho
     exact rs_val rfl (fun h=>by cases h) (.int .i64 bb) y (by simp [go_sem,s4]) trivial (⟨fun h=>hI.1 (by simpa using h),fun h=>hI.2 (by simpa using h)⟩) rfl
    ·cases ho
     exact rs_val rfl (fun h=>by cases h) (.pointer (some ⟨B,0,none⟩)) y (by simp [go_sem,s0]) trivial (⟨fun h=>hI.1 (by simpa using h),fun h=>hI.2 (by simpa using h)⟩) rfl
    ·cases ho
     have q5:a'.tmps[134]?.getD undef = .pointer (some ⟨B,0,none⟩):=tq (hp 5 (od (by kernel_rfl)) (.inr (by decide)))
     exact rs_val rfl (fun h=>by cases h) (.pointer (some ⟨B,0,none⟩)) y (by simp [go_sem,q5]) trivial (⟨fun h=>hI.1 (by simpa using h),fun h=>hI.2 (by simpa using h)⟩) rfl
    ·cases ho
     have q6:a'.tmps[135]?.getD undef = .pointer (some ⟨B,0,none⟩):=tq (hp 6 (od (by kernel_rfl)) (.inr (by decide)))
     exact rs_val rfl (fun h=>by cases h) (.pointer (some ⟨B,9,none⟩)) y (by simp [go_sem,q6]) trivial (⟨fun h=>hI.1 (by simpa using h),fun h=>hI.2 (by simpa using h)⟩) rfl
    ·cases ho
     have n27:=hre 27 (by decide +kernel)
     have hB:=hI.1 n27
     obtain ⟨f9,f5,ftm,fx2,⟨fs0,fs1,fs2⟩,⟨fz0,fz1,fz2⟩,fgb,fbel,fR,fX,fsk⟩:=RY.out x hB
     have q7:a'.tmps[136]?.getD undef = .pointer (some ⟨B,9,none⟩):=tq (hp 7 (od (by kernel_rfl)) (.inr (by decide)))
     exact rs_val rfl (fun h=>by cases h) (.slice (some ⟨sk,0,none⟩) g.steers.length xg.c6) y (by simp [go_sem,q7,f9]) trivial (⟨fun h=>hI.1 (by simpa using h),fun h=>hI.2 (by simpa using h)⟩) rfl
    ·cases ho
     exact rs_val rfl (fun h=>by cases h) (.int .i64 bb) y (by simp [go_sem,s4]) trivial (⟨fun h=>hI.1 (by simpa using h),fun h=>hI.2 (by simpa using h)⟩) rfl
    ·cases ho
     have q8:a'.tmps[137]?.getD undef = .slice (some ⟨sk,0,none⟩) g.steers.length xg.c6:=tq (hp 8 (od (by kernel_rfl)) (.inr (by decide)))
     have q9:a'.tmps[138]?.getD undef = .int .i64 bb:=tq (hp 9 (od (by kernel_rfl)) (.inr (by decide)))
     exact rs_val rfl (fun h=>by cases h) (.pointer (some ⟨sk,bb*3,none⟩)) y (by simp [go_sem,q8,q9,hbi]) trivial (⟨fun h=>hI.1 (by simpa using h),fun h=>hI.2 (by simpa using h)⟩) rfl
    ·cases ho
     have n27:=hre 27 (by decide +kernel)
     have hB:=hI.1 n27
     obtain ⟨f9,f5,ftm,fx2,⟨fs0,fs1,fs2⟩,⟨fz0,fz1,fz2⟩,fgb,fbel,fR,fX,fsk⟩:=RY.out x hB
     have q10:a'.tmps[139]?.getD undef = .pointer (some ⟨sk,bb*3,none⟩):=tq (hp 10 (od (by kernel_rfl)) (.inr (by decide)))
     exact rs_val rfl (fun h=>by cases h) (.agg (ic p0 p1 p2)) y (by simp [go_sem,q10,fs0,fs1,fs2]) trivial (⟨fun h=>hI.1 (by simpa using h),fun h=>hI.2 (by simpa using h)⟩) rfl
    ·cases ho
     exact rs_val rfl (fun h=>by cases h) (.pointer (some ⟨B,0,none⟩)) y (by simp [go_sem,s0]) trivial (⟨fun h=>hI.1 (by simpa using h),fun h=>hI.2 (by simpa using h)⟩) rfl
    ·cases ho
     have q12:a'.tmps[141]?.getD undef = .pointer (some ⟨B,0,none⟩):=tq (hp 12 (od (by kernel_rfl)) (.inr (by decide)))
     exact rs_val rfl (fun h=>by cases h) (.pointer (some ⟨B,0,none⟩)) y (by simp [go_sem,q12]) trivial (⟨fun h=>hI.1 (by simpa using h),fun h=>hI.2 (by simpa using h)⟩) rfl
    ·cases ho
     have q13:a'.tmps[142]?.getD undef = .pointer (some ⟨B,0,none⟩):=tq (hp 13 (od (by kernel_rfl)) (.inr (by decide)))
     exact rs_val rfl (fun h=>by cases h) (.pointer (some ⟨B,5,none⟩)) y (by simp [go_sem,q13]) trivial (⟨fun h=>hI.1 (by simpa using h),fun h=>hI.2 (by simpa using h)⟩) rfl
    ·cases ho
     have n27:=hre 27 (by decide +kernel)
     have hB:=hI.1 n27
     obtain ⟨f9,f5,ftm,fx2,⟨fs0,fs1,fs2⟩,⟨fz0,fz1,fz2⟩,fgb,fbel,fR,fX,fsk⟩:=RY.out x hB
     have q14:a'.tmps[143]?.getD undef = .pointer (some ⟨B,5,none⟩):=tq (hp 14 (od (by kernel_rfl)) (.inr (by decide)))
     exact rs_val rfl (fun h=>by cases h) (.slice (some ⟨tk,0,none⟩) (nt+1) xg.c3) y (by simp [go_sem,q14,f5]) trivial (⟨fun h=>hI.1 (by simpa using h),fun h=>hI.2 (by simpa using h)⟩) rfl
    ·cases ho
     have q15:a'.tmps[144]?.getD undef = .slice (some ⟨tk,0,none⟩) (nt+1) xg.c3:=tq (hp 15 (od (by kernel_rfl)) (.inr (by decide)))
     exact rs_val rfl (fun h=>by cases h) (.pointer (some ⟨tk,0,none⟩)) y (by simp [go_sem,q15,ht0]) trivial (⟨fun h=>hI.1 (by simpa using h),fun h=>hI.2 (by simpa using h)⟩) rfl
    ·cases ho
     have q16:a'.tmps[145]?.getD undef = .pointer (some ⟨tk,0,none⟩):=tq (hp 16 (od (by kernel_rfl)) (.inr (by decide)))
     exact rs_val rfl (fun h=>by cases h) (.pointer (some ⟨tk,1,none⟩)) y (by simp [go_sem,q16]) trivial (⟨fun h=>hI.1 (by simpa using h),fun h=>hI.2 (by simpa using h)⟩) rfl
    ·cases ho
     have q17:a'.tmps[146]?.getD undef = .pointer (some ⟨tk,1,none⟩):=tq (hp 17 (od (by kernel_rfl)) (.inr (by decide)))
     exact rs_val rfl (fun h=>by cases h) (.pointer (some ⟨tk,4,none⟩)) y (by simp [go_sem,q17]) trivial (⟨fun h=>hI.1 (by simpa using h),fun h=>hI.2 (by simpa using h)⟩) rfl
    ·cases ho
     have n27:=hre 27 (by decide +kernel)
     have hB:=hI.1 n27
     obtain ⟨f9,f5,ftm,fx2,⟨fs0,fs1,fs2⟩,⟨fz0,fz1,fz2⟩,fgb,fbel,fR,fX,fsk⟩:=RY.out x hB
     have q18:a'.tmps[147]?.getD undef = .pointer (some ⟨tk,4,none⟩):=tq (hp 18 (od (by kernel_rfl)) (.inr (by decide)))
     exact rs_val rfl (fun h=>by cases h) (.int .i64 tm) y (by simp [go_sem,q18,ftm]) trivial (⟨fun h=>hI.1 (by simpa using h),fun h=>hI.2 (by simpa using h)⟩) rfl
    ·cases ho
     exact rs_val rfl (fun h=>by cases h) (.pointer (some ⟨X,2,none⟩)) y (by simp [go_sem,s8]) trivial (⟨fun h=>hI.1 (by simpa using h),fun h=>hI.2 (by simpa using h)⟩) rfl
    ·cases ho
     have n27:=hre 27 (by decide +kernel)
     have hB:=hI.1 n27
     obtain ⟨f9,f5,ftm,fx2,⟨fs0,fs1,fs2⟩,⟨fz0,fz1,fz2⟩,fgb,fbel,fR,fX,fsk⟩:=RY.out x hB
     have q20:a'.tmps[149]?.getD undef = .pointer (some ⟨X,2,none⟩):=tq (hp 20 (od (by kernel_rfl)) (.inr (by decide)))
     exact rs_val rfl (fun h=>by cases h) (.int .i64 t2) y (by simp [go_sem,q20,fx2]) trivial (⟨fun h=>hI.1 (by simpa using h),fun h=>hI.2 (by simpa using h)⟩) rfl
    ·cases ho
     have q19:a'.tmps[148]?.getD undef = .int .i64 tm:=tq (hp 19 (od (by kernel_rfl)) (.inr (by decide)))
     have q21:a'.tmps[150]?.getD undef = .int .i64 t2:=tq (hp 21 (od (by kernel_rfl)) (.inr (by decide)))
     exact rs_val rfl (fun h=>by cases h) (.int .i64 (tm-t2)) y (by simp [go_sem,q19,q21,kw]) trivial (⟨fun h=>hI.1 (by simpa using h),fun h=>hI.2 (by simpa using h)⟩) rfl
    ·cases ho
     have n27:=hre 27 (by decide +kernel)
     have hB:=hI.1 n27
     obtain ⟨f9,f5,ftm,fx2,⟨fs0,fs1,fs2⟩,⟨fz0,fz1,fz2⟩,fgb,fbel,fR,fX,fsk⟩:=RY.out x hB
     have q22:a'.tmps[151]?.getD undef = .int .i64 (tm-t2):=tq (hp 22 (od (by kernel_rfl)) (.inr (by decide)))
     refine ⟨wno rfl,op_callR (f:=83) (args:=#[.int .i64 100000,.int .i64 (tm-t2)]) (by simp [execOp,resolve,Deferred.ofValue,invoke,Act.eval,q22]) (A17'.out x) ?_⟩
     rintro e x1 ⟨rfl,hx1⟩
     have hx2:=hx1.symm
     subst hx2
     exact ⟨_,rfl,_,(),rfl,trivial,⟨fun h=>hI.1 (by simpa using h),fun h=>hI.2 (by simpa using h)⟩,fun u hu=>hu (fun h=>by cases h)⟩
    ·cases ho
     have n27:=hre 27 (by decide +kernel)
     have hB:=hI.1 n27
     obtain ⟨f9,f5,ftm,fx2,⟨fs0,fs1,fs2⟩,⟨fz0,fz1,fz2⟩,fgb,fbel,fR,fX,fsk⟩:=RY.out x hB
     have q23:a'.tmps[152]?.getD undef = .int .i64 dm:=tq (hp 23 (od (by kernel_rfl)) (.inr (by decide)))
     refine ⟨wno rfl,op_callR (f:=82) (args:=#[.int .i64 0,.int .i64 dm]) (by simp [execOp,resolve,Deferred.ofValue,invoke,Act.eval,q23]) (A18'.out x) ?_⟩
     rintro e x1 ⟨rfl,hx1⟩
     have hx2:=hx1.symm
     subst hx2
     exact ⟨_,rfl,_,(),rfl,trivial,⟨fun h=>hI.1 (by simpa using h),fun h=>hI.2 (by simpa using h)⟩,fun u hu=>hu (fun h=>by cases h)⟩
    ·cases ho
     have n27:=hre 27 (by decide +kernel)
     have hB:=hI.1 n27
     obtain ⟨f9,f5,ftm,fx2,⟨fs0,fs1,fs2⟩,⟨fz0,fz1,fz2⟩,fgb,fbel,fR,fX,fsk⟩:=RY.out x hB
     have q11:a'.tmps[140]?.getD undef = .agg (ic p0 p1 p2):=tq (hp 11 (od (by kernel_rfl)) (.inr (by decide)))
     have q24:a'.tmps[153]?.getD undef = .int .i64 d:=tq (hp 24 (od (by kernel_rfl)) (.inr (by decide)))
     refine ⟨wno rfl,op_callR (f:=81) (args:=#[.agg (ic p0 p1 p2),.int .i64 d]) (by simp [execOp,resolve,Deferred.ofValue,invoke,Act.eval,q11,q24]) (A16'.out x) ?_⟩
     rintro e x1 ⟨rfl,q⟩
     exact ⟨_,rfl,_,(),rfl,trivial,⟨fun _=>hB.trans (q.mono hB.size),fun h=>absurd (show L 27=true by simpa using h) (by rw [n27];decide)⟩,fun u hu=>hu (fun h=>by cases h)⟩
    ·cases ho
     have q3:a'.tmps[132]?.getD undef = .slice (some ⟨sk,0,none⟩) g.steers.length xg.c6:=tq (hp 3 (od (by kernel_rfl)) (.inr (by decide)))
     have q4:a'.tmps[133]?.getD undef = .int .i64 bb:=tq (hp 4 (od (by kernel_rfl)) (.inr (by decide)))
     exact rs_val rfl (fun h=>by cases h) (.pointer (some ⟨sk,bb*3,none⟩)) y (by simp [go_sem,q3,q4,hbi]) trivial (⟨fun h=>hI.1 (by simpa using h),fun h=>hI.2 (by simpa using h)⟩) rfl
    ·cases ho
     have hB:=hI.1 hLi
     obtain ⟨f9,f5,ftm,fx2,⟨fs0,fs1,fs2⟩,⟨fz0,fz1,fz2⟩,fgb,fbel,fR,fX,fsk⟩:=RY.out x hB
     have q25:a'.tmps[154]?.getD undef = .agg (ic q0 q1 q2):=tq (hp 25 (od (by kernel_rfl)) (.inr (by decide)))
     have q26:a'.tmps[155]?.getD undef = .pointer (some ⟨sk,bb*3,none⟩):=tq (hp 26 (od (by kernel_rfl)) (.inr (by decide)))
     have Fz:GtB b B (((x.setCell ⟨sk,bb*3,none⟩ (.int .i64 q0)).setCell ⟨sk,bb*3+1,none⟩ (.int .i64 q1)).setCell ⟨sk,bb*3+2,none⟩ (.int .i64 q2)) xg (vs.set bb u) rs' (g.go bb)∧Below b w (((x.setCell ⟨sk,bb*3,none⟩ (.int .i64 q0)).setCell ⟨sk,bb*3+1,none⟩ (.int .i64 q1)).setCell ⟨sk,bb*3+2,none⟩ (.int .i64 q2))∧Boxed (((x.setCell ⟨sk,bb*3,none⟩ (.int .i64 q0)).setCell ⟨sk,bb*3+1,none⟩ (.int .i64 q1)).setCell ⟨sk,bb*3+2,none⟩ (.int .i64 q2)) R zi 52∧Boxed (((x.setCell ⟨sk,bb*3,none⟩ (.int .i64 q0)).setCell ⟨sk,bb*3+1,none⟩ (.int .i64 q1)).setCell ⟨sk,bb*3+2,none⟩ (.int .i64 q2)) X (ic t0 t1 t2) 52:=by
      have hk:=Hsk.out
      have p:=fgb.putSteer Ea6.out bb ⟨q0,q1,q2⟩
      refine ⟨?_,((fbel.setCell hk.1 _).setCell hk.1 _).setCell hk.1 _,((fR.far (fun e=>hk.2.1 e.symm) _ _).far (fun e=>hk.2.1 e.symm) _ _).far (fun e=>hk.2.1 e.symm) _ _,((fX.far (fun e=>hk.2.2 e.symm) _ _).far (fun e=>hk.2.2 e.symm) _ _).far (fun e=>hk.2.2 e.symm) _ _⟩
      rw [← Fin.out]
      exact p
     refine ⟨wno rfl,Oper.wp_mono (K:=fun a'' w''=>a''=a'.put none undef∧w''=(((x.setCell ⟨sk,bb*3,none⟩ (.int .i64 q0)).setCell ⟨sk,bb*3+1,none⟩ (.int .i64 q1)).setCell ⟨sk,bb*3+2,none⟩ (.int .i64 q2))) ?_ ?_⟩
     ·rintro _ _ ⟨rfl,rfl⟩
      exact ⟨undef,(),rfl,trivial,⟨fun h=>by simp at h,fun _=>Fz⟩,fun _ _=>trivial⟩
     ·unfold Oper.wp
      simp [go_sem,q25,q26,fs0,fs1,fs2,fz0,fz1,fz2]
   case last =>
   intro L a' y x hall hkp hI hp
   obtain Zf:=hI.2 (hall 27 (by decide))
   have ZF:Hid _:=Zf
   have ha:=hkp.pick [true,true,true,true,true,true,true,true,true,true,true,true,true,true,true,true,true,true,true,true,true,true,true,true,true,true,true,true,true,true,true,true,true,true,true,true,true,true,true,true,true,true,true,true,true,true,true,true,true,true,true,true,true,true,true,true,true,true,true,true,true,true,true,true,true,true,true,true,true,true,true,true,true,true,true,true,true,true,true,true,true,true,true,true,true,true,true,true,true,true,true,true,true,true,true,true,true,true,true,true,true,true,true,true,true,true,true,true,true,true,true,true,true,true,true,true,true,true,true,true,true,true,true,true,true,true,true,true,true,false,false,false,false,false,false,false,false,false,false,false,false,false,false,false,false,false,false,false,false,false,false,false,false,false,false,false,true,true] (by kernel_rfl)
   simp only [pickS] at ha
   clear hp hkp hI hall Zf RY hn8 hk hlt h2 h3 k9 fk1 fk2 hb8 hs1 hb2 hbn hb4 hbl hrw hlaS hbr hgl hBs hwt hm2 elv hlc hpm hpm2 c6 F1 u0 u1 u2 u3 kw ht0 hbi A16' A17' A18'
   generalize a'.tmps.getD 129 undef=y129 at ha
   generalize a'.tmps.getD 130 undef=y130 at ha
   generalize a'.tmps.getD 131 undef=y131 at ha
   generalize a'.tmps.getD 132 undef=y132 at ha
   generalize a'.tmps.getD 133 undef=y133 at ha
   generalize a'.tmps.getD 134 undef=y134 at ha
   generalize a'.tmps.getD 135 undef=y135 at ha
   generalize a'.tmps.getD 136 undef=y136 at ha
   generalize a'.tmps.getD 137 undef=y137 at ha
   generalize a'.tmps.getD 138 undef=y138 at ha
   generalize a'.tmps.getD 139 undef=y139 at ha
   generalize a'.tmps.getD 140 undef=y140 at ha
   generalize a'.tmps.getD 141 undef=y141 at ha
   generalize a'.tmps.getD 142 undef=y142 at ha
   generalize a'.tmps.getD 143 undef=y143 at ha
   generalize a'.tmps.getD 144 undef=y144 at ha
   generalize a'.tmps.getD 145 undef=y145 at ha
   generalize a'.tmps.getD 146 undef=y146 at ha
   generalize a'.tmps.getD 147 undef=y147 at ha
   generalize a'.tmps.getD 148 undef=y148 at ha
   generalize a'.tmps.getD 149 undef=y149 at ha
   generalize a'.tmps.getD 150 undef=y150 at ha
   generalize a'.tmps.getD 151 undef=y151 at ha
   generalize a'.tmps.getD 152 undef=y152 at ha
   generalize a'.tmps.getD 153 undef=y153 at ha
   generalize a'.tmps.getD 154 undef=y154 at ha
   generalize a'.tmps.getD 155 undef=y155 at ha
   rw [ha]
   clear ha
   go_upto_region 17 with fail
   have k0:=ZF.out.2.2.2.cell 0 rfl
   have k1:=ZF.out.2.2.2.cell 1 rfl
   have k2:=ZF.out.2.2.2.cell 2 rfl
   have r0:=ZF.out.2.2.1.cell 0 rfl
   have r1:=ZF.out.2.2.1.cell 1 rfl
   have r2:=ZF.out.2.2.1.cell 2 rfl
   have i0:=ZF.out.2.2.1.ice 0
   have i1:=ZF.out.2.2.1.ice 1
   have i2:=ZF.out.2.2.1.ice 2
   have R3:Hid (Boxed (((x.setCell ⟨R,0,none⟩ (.int .i64 t0)).setCell ⟨R,1,none⟩ (.int .i64 t1)).setCell ⟨R,2,none⟩ (.int .i64 t2)) R (ic t0 t1 t2) 52∧Below b w (((x.setCell ⟨R,0,none⟩ (.int .i64 t0)).setCell ⟨R,1,none⟩ (.int .i64 t1)).setCell ⟨R,2,none⟩ (.int .i64 t2))∧∀ k,k≠R→(((x.setCell ⟨R,0,none⟩ (.int .i64 t0)).setCell ⟨R,1,none⟩ (.int .i64 t1)).setCell ⟨R,2,none⟩ (.int .i64 t2)).heap[k]? = x.heap[k]?):=by
    have hlo:b≤R:=by have:=Hb.out.1;rw [HR.out];exact this
    refine ⟨?_,((ZF.out.2.1.setCell hlo _).setCell hlo _).setCell hlo _,fun k hk=>((Below.heap_setCell _ _ _ _ hk).trans (Below.heap_setCell _ _ _ _ hk)).trans (Below.heap_setCell _ _ _ _ hk)⟩
    have:=((ZF.out.2.2.1.put 0 (.int .i64 t0)).put 1 (.int .i64 t1)).put 2 (.int .i64 t2)
    simpa using this
   go_wp2_with fail
   refine bodyPost_ret (results_row_tmp Tryz.results24 _ _ R _ (ic t0 t1 t2) _ _ (.int .i64 bb) rfl rfl R3.out.1 Tryz.underlying52 rfl (by kernel_rfl)) rfl ⟨?_,⟨xg,vs.set bb u,rs',?_⟩,R3.out.2.1⟩
   ·rw [Ho2.out.2.1,Ho2.out.2.2,HL.out.1,Hit.out]
    rfl
   ·rw [Ho2.out.1]
    refine ZF.out.1.beside ZF.out.2.2.1 (fun i k hi hk=>?_) (fun k hk _=>R3.out.2.2 k hk)
    have hi':i<g.rows.lists.length:=by
     have h7:i<(g.rows.lists.set bb (l.drop 1)).length:=by
      have h8:=hi
      rw [← Fin.out] at h8
      exact h8
     rwa [List.length_set] at h7
    by_cases e:i=bb
    ·subst e
     rw [izV_set_self (by rw [H0.out.own.rows.len];exact hi')] at hk
     exact Y4.out.2.2.2.2 k hk
    ·rw [izV_set_ne e] at hk
     exact HI.out i k hi' hk
end Go.Proofs.YtgebghkcikmfaaaGreatDoor
