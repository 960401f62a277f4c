import Derived.ProofKit
import Derived.OpenShut
import Derived.ShutString
import Derived.ChangeOld
import Derived.Deep.Slices
import Derived.Test.YtmfabeghfdoibaaGreatQT48GtTo
set_option maxRecDepth 100000
namespace Go.Proofs.YtmfabeghfdoibaaGreat
open Go.ChangeShapes Go.WideShapes Go.ChangeAt Go.RowKit
theorem field_of {H:Type} {enc:TypeId×Value→H} {P:Program} {w:World} {base:Nat} {spare:Nat→Bool} {held:Bool} {t:TypeId} {fs:Array Field} {fuel:Nat} {cs:List Value} {x:DataW H×List MemPlace}
 (ht:P.underlying t=some (.struct fs)) (h:DataW.trod enc P w base spare held fuel t cs=some x) (j:Nat) (f:Field) (hj:fs[j]? = some f) (ho:f.offset=j) (hk:P.cellsOf f.type=1) (c:Value) (hc:cs[j]? = some c) :
 ∃ n y,DataW.trod enc P w base spare held n f.type [c]=some y:=by
 obtain ⟨xs,n,_,rfl,hl,hlen,hf⟩:=DataW.trod_struct ht h
 have h1:=hf j f hj
 have hlt:j<fs.size:=by
  apply Classical.byContradiction
  intro hn
  rw [Array.getElem?_eq_none (by omega)] at hj
  cases hj
 have hx:xs[j]? = some xs[j]:=List.getElem?_eq_getElem (by omega)
 have hcl:j<cs.length:=(List.getElem?_eq_some_iff.1 hc).1
 have hd:(cs.drop f.offset).take (P.cellsOf f.type)=[c]:=by
  rw [ho,hk,List.drop_eq_getElem_cons hcl]
  simp [(List.getElem?_eq_some_iff.1 hc).2]
 rw [hd,hx] at h1
 exact ⟨n,_,h1⟩
theorem int_field {H:Type} {enc:TypeId×Value→H} {P:Program} {w:World} {base:Nat} {spare:Nat→Bool} {held:Bool} {t:TypeId} {fs:Array Field} {fuel:Nat} {cs:List Value} {x:DataW H×List MemPlace}
 (ht:P.underlying t=some (.struct fs)) (h:DataW.trod enc P w base spare held fuel t cs=some x) (j:Nat) (f:Field) (hj:fs[j]? = some f) (ho:f.offset=j) (hk:P.cellsOf f.type=1) (k:IntKind) (hu:P.underlying f.type=some (.int k)) (c:Value) (hc:cs[j]? = some c) :
 ∃ n:Int,c = .int k n:=by
 obtain ⟨m,y,hy⟩:=field_of ht h j f hj ho hk c hc
 obtain ⟨n,e,_⟩:=DataW.trod_int hu hy
 exact ⟨n,by simpa using e⟩
open Go.ChangeShapes Go.WideShapes Go.ChangeAt Go.RowKit
theorem rtAddr (b off i j:Nat) (x:Addr) (hx:x=⟨b,off,none⟩):(x.add (i*3)).add j=⟨b,off+i*3+j,none⟩:=by
 subst hx
 rw [Go.Deep.add_add]
 by_cases h:i*3+j=0
 ·obtain rfl:i=0:=by omega
  obtain rfl:j=0:=by omega
  simp [Addr.add]
 ·simp only [Addr.add,h,if_false]
  simp
theorem rts_trod {H:Type} {enc:TypeId×Value→H} {W:World} {base:Nat} {spare:Nat→Bool} {held:Bool} {v:Value} {fuel:Nat} {y:DataW H×List MemPlace}
 (hf':DataW.trod enc Tryz.prog W base spare held fuel 24 [v]=some y):∃ (l:List Rt) (a:Option Addr) (cap:Nat),v = .slice a l.length cap∧RtsAt W a l∧(l.length:Int)≤9223372036854775807∧l.length≤cap∧(a=none→cap=0):=by
 rcases Go.Deep.open_slice Tryz.underlying24 hf' with ⟨e,_⟩|⟨x,len,cap,m,n,D,Pl,e,_,hl,hm,hmm,_,hx⟩
 ·obtain rfl:v = .slice none 0 0:=by simpa using e
  exact ⟨[],none,0,rfl,RtsAt.nil _ _,by simp,by simp,fun _=>rfl⟩
 ·obtain rfl:v = .slice (some x) len cap:=by simpa using e
  have hc3:Tryz.prog.cellsOf 150=3:=by kernel_rfl
  have hlm:len≤m:=by rw [hmm];split<;>omega
  rw [maxLen] at hm
  have hspot:0<len→∃ b off,x=⟨b,off,none⟩:=by
   intro h0
   obtain ⟨cs',h1,h2⟩:=hx 0 (by omega)
   rw [hc3] at h1
   obtain ⟨_,hlen,hcell⟩:=World.cells?_some h1
   match cs',hlen with
   |[v0,v1,v2],_ =>
    have e0:=hcell 0 (by omega)
    obtain ⟨b,off,spot⟩:=x
    have hs:spot=none:=by simpa [Addr.add] using World.cell?_spot (w:=W) (a:=(⟨b,off,spot⟩:Addr)) (v:=v0) (by simpa [Addr.add] using e0)
    exact ⟨b,off,by rw [hs]⟩
  have each:∀ i,i<len→∃ q:Rt,∃ b off,x=⟨b,off,none⟩∧W.cell? ⟨b,off+i*3,none⟩=some (.int .i64 q.net)∧W.cell? ⟨b,off+i*3+1,none⟩=some (.int .i64 q.bits)∧W.cell? ⟨b,off+i*3+2,none⟩=some (.int .i64 q.hop):=by
   intro i hi
   obtain ⟨cs',h1,h2⟩:=hx i (by omega)
   rw [hc3] at h1
   obtain ⟨_,hlen,hcell⟩:=World.cells?_some h1
   match cs',hlen with
   |[v0,v1,v2],_ =>
    obtain ⟨n0,rfl⟩:=int_field Tryz.underlying150 h2 0 _ rfl rfl (by kernel_rfl) .i64 Tryz.underlying2 v0 rfl
    obtain ⟨n1,rfl⟩:=int_field Tryz.underlying150 h2 1 _ rfl rfl (by kernel_rfl) .i64 Tryz.underlying2 v1 rfl
    obtain ⟨n2,rfl⟩:=int_field Tryz.underlying150 h2 2 _ rfl rfl (by kernel_rfl) .i64 Tryz.underlying2 v2 rfl
    have e0:=hcell 0 (by omega)
    have e1:=hcell 1 (by omega)
    have e2:=hcell 2 (by omega)
    obtain ⟨b,off,rfl⟩:=hspot (by omega)
    rw [rtAddr b off i _ _ rfl] at e0 e1 e2
    exact ⟨⟨n0,n1,n2⟩,b,off,rfl,by simpa using e0,by simpa using e1,by simpa using e2⟩
  haveI:Inhabited Rt:=⟨⟨0,0,0⟩⟩
  obtain ⟨f,hff⟩:=Go.Deep.choose_lt each
  have hlen:((List.range len).map f).length=len:=by simp
  refine ⟨(List.range len).map f,some x,cap,by rw [hlen],?_,by rw [hlen];omega,by rw [hlen];exact hl,fun h=>by cases h⟩
  intro k hk
  rw [hlen] at hk
  obtain ⟨b,off,e,c0,c1,c2⟩:=hff k hk
  have hr:rtAt ((List.range len).map f) k=f k:=by simp [rtAt,hk]
  rw [hr]
  exact ⟨b,off,by rw [e],World.block_lt_of_cell? _ _ c0,c0,c1,c2⟩
open Go.ChangeShapes Go.WideShapes Go.ChangeAt Go.RowKit
theorem ruAddr (b off i j:Nat) (x:Addr) (hx:x=⟨b,off,none⟩):(x.add (i*10)).add j=⟨b,off+i*10+j,none⟩:=by
 subst hx
 rw [Go.Deep.add_add]
 by_cases h:i*10+j=0
 ·obtain rfl:i=0:=by omega
  obtain rfl:j=0:=by omega
  simp [Addr.add]
 ·simp only [Addr.add,h,if_false]
  simp
theorem rus_trod {H:Type} {enc:TypeId×Value→H} {W:World} {base:Nat} {spare:Nat→Bool} {held:Bool} {v:Value} {fuel:Nat} {y:DataW H×List MemPlace}
 (hf':DataW.trod enc Tryz.prog W base spare held fuel 25 [v]=some y):∃ (l:List Ru) (a:Option Addr) (cap:Nat),v = .slice a l.length cap∧RusAt W a l∧(l.length:Int)≤9223372036854775807∧l.length≤cap∧(a=none→cap=0):=by
 rcases Go.Deep.open_slice Tryz.underlying25 hf' with ⟨e,_⟩|⟨x,len,cap,m,n,D,Pl,e,_,hl,hm,hmm,_,hx⟩
 ·obtain rfl:v = .slice none 0 0:=by simpa using e
  exact ⟨[],none,0,rfl,RusAt.nil _ _,by simp,by simp,fun _=>rfl⟩
 ·obtain rfl:v = .slice (some x) len cap:=by simpa using e
  have hc3:Tryz.prog.cellsOf 154=10:=by kernel_rfl
  have hlm:len≤m:=by rw [hmm];split<;>omega
  rw [maxLen] at hm
  have hspot:0<len→∃ b off,x=⟨b,off,none⟩:=by
   intro h0
   obtain ⟨cs',h1,h2⟩:=hx 0 (by omega)
   rw [hc3] at h1
   obtain ⟨_,hlen,hcell⟩:=World.cells?_some h1
   match cs',hlen with
   |[v0,v1,v2,v3,v4,v5,v6,v7,v8,v9],_ =>
    have e0:=hcell 0 (by omega)
    obtain ⟨b,off,spot⟩:=x
    have hs:spot=none:=by simpa [Addr.add] using World.cell?_spot (w:=W) (a:=(⟨b,off,spot⟩:Addr)) (v:=v0) (by simpa [Addr.add] using e0)
    exact ⟨b,off,by rw [hs]⟩
  have each:∀ i,i<len→∃ q:Ru,∃ b off,x=⟨b,off,none⟩∧W.cell? ⟨b,off+i*10,none⟩=some (.int .i64 q.id)∧W.cell? ⟨b,off+i*10+1,none⟩=some (.int .i64 q.prio)∧W.cell? ⟨b,off+i*10+2,none⟩=some (.int .i64 q.snet)∧W.cell? ⟨b,off+i*10+3,none⟩=some (.int .i64 q.sbits)∧W.cell? ⟨b,off+i*10+4,none⟩=some (.int .i64 q.dnet)∧W.cell? ⟨b,off+i*10+5,none⟩=some (.int .i64 q.dbits)∧W.cell? ⟨b,off+i*10+6,none⟩=some (.int .i64 q.proto)∧W.cell? ⟨b,off+i*10+7,none⟩=some (.int .i64 q.low)∧W.cell? ⟨b,off+i*10+8,none⟩=some (.int .i64 q.high)∧W.cell? ⟨b,off+i*10+9,none⟩=some (.int .i64 q.cls):=by
   intro i hi
   obtain ⟨cs',h1,h2⟩:=hx i (by omega)
   rw [hc3] at h1
   obtain ⟨_,hlen,hcell⟩:=World.cells?_some h1
   match cs',hlen with
   |[v0,v1,v2,v3,v4,v5,v6,v7,v8,v9],_ =>
    obtain ⟨n0,rfl⟩:=int_field Tryz.underlying154 h2 0 _ rfl rfl (by kernel_rfl) .i64 Tryz.underlying2 v0 rfl
    obtain ⟨n1,rfl⟩:=int_field Tryz.underlying154 h2 1 _ rfl rfl (by kernel_rfl) .i64 Tryz.underlying2 v1 rfl
    obtain ⟨n2,rfl⟩:=int_field Tryz.underlying154 h2 2 _ rfl rfl (by kernel_rfl) .i64 Tryz.underlying2 v2 rfl
    obtain ⟨n3,rfl⟩:=int_field Tryz.underlying154 h2 3 _ rfl rfl (by kernel_rfl) .i64 Tryz.underlying2 v3 rfl
    obtain ⟨n4,rfl⟩:=int_field Tryz.underlying154 h2 4 _ rfl rfl (by kernel_rfl) .i64 Tryz.underlying2 v4 rfl
    obtain ⟨n5,rfl⟩:=int_field Tryz.underlying154 h2 5 _ rfl rfl (by kernel_rfl) .i64 Tryz.underlying2 v5 rfl
    obtain ⟨n6,rfl⟩:=int_field Tryz.underlying154 h2 6 _ rfl rfl (by kernel_rfl) .i64 Tryz.underlying2 v6 rfl
    obtain ⟨n7,rfl⟩:=int_field Tryz.underlying154 h2 7 _ rfl rfl (by kernel_rfl) .i64 Tryz.underlying2 v7 rfl
    obtain ⟨n8,rfl⟩:=int_field Tryz.underlying154 h2 8 _ rfl rfl (by kernel_rfl) .i64 Tryz.underlying2 v8 rfl
    obtain ⟨n9,rfl⟩:=int_field Tryz.underlying154 h2 9 _ rfl rfl (by kernel_rfl) .i64 Tryz.underlying2 v9 rfl
    have e0:=hcell 0 (by omega)
    have e1:=hcell 1 (by omega)
    have e2:=hcell 2 (by omega)
    have e3:=hcell 3 (by omega)
    have e4:=hcell 4 (by omega)
    have e5:=hcell 5 (by omega)
    have e6:=hcell 6 (by omega)
    have e7:=hcell 7 (by omega)
    have e8:=hcell 8 (by omega)
    have e9:=hcell 9 (by omega)
    obtain ⟨b,off,rfl⟩:=hspot (by omega)
    rw [ruAddr b off i _ _ rfl] at e0 e1 e2 e3 e4 e5 e6 e7 e8 e9
    exact ⟨⟨n0,n1,n2,n3,n4,n5,n6,n7,n8,n9⟩,b,off,rfl,by simpa using e0,by simpa using e1,by simpa using e2,by simpa using e3,by simpa using e4,by simpa using e5,by simpa using e6,by simpa using e7,by simpa using e8,by simpa using e9⟩
  haveI:Inhabited Ru:=⟨⟨0,0,0,0,0,0,0,0,0,0⟩⟩
  obtain ⟨f,hff⟩:=Go.Deep.choose_lt each
  have hlen:((List.range len).map f).length=len:=by simp
  refine ⟨(List.range len).map f,some x,cap,by rw [hlen],?_,by rw [hlen];omega,by rw [hlen];exact hl,fun h=>by cases h⟩
  intro k hk
  rw [hlen] at hk
  obtain ⟨b,off,e,c0,c1,c2,c3,c4,c5,c6,c7,c8,c9⟩:=hff k hk
  have hr:ruAt ((List.range len).map f) k=f k:=by simp [ruAt,hk]
  rw [hr]
  exact ⟨b,off,by rw [e],World.block_lt_of_cell? _ _ c0,c0,c1,c2,c3,c4,c5,c6,c7,c8,c9⟩
open Go.ChangeShapes Go.WideShapes Go.ChangeAt Go.RowKit
theorem part_of {H:Type} {enc:TypeId×Value→H} {P:Program} {w:World} {base:Nat} {spare:Nat→Bool} {held:Bool} {t:TypeId} {fs:Array Field} {fuel:Nat} {cs:List Value} {x:DataW H×List MemPlace}
 (ht:P.underlying t=some (.struct fs)) (h:DataW.trod enc P w base spare held fuel t cs=some x) (j:Nat) (f:Field) (hj:fs[j]? = some f) (o k:Nat) (T:TypeId) (ho:f.offset=o) (hT:f.type=T) (hk:P.cellsOf T=k) :
 ∃ n y,DataW.trod enc P w base spare held n T ((cs.drop o).take k)=some y:=by
 subst ho;subst hT;subst hk
 obtain ⟨xs,n,_,rfl,hl,hlen,hf⟩:=DataW.trod_struct ht h
 have h1:=hf j f hj
 have hlt:j<fs.size:=by
  apply Classical.byContradiction
  intro hn
  rw [Array.getElem?_eq_none (by omega)] at hj
  cases hj
 have hx:xs[j]? = some xs[j]:=List.getElem?_eq_getElem (by omega)
 rw [hx] at h1
 exact ⟨n,_,h1⟩
theorem ndAddr (b off i j:Nat) (x:Addr) (hx:x=⟨b,off,none⟩):(x.add (i*5)).add j=⟨b,off+i*5+j,none⟩:=by
 subst hx
 rw [Go.Deep.add_add]
 by_cases h:i*5+j=0
 ·obtain rfl:i=0:=by omega
  obtain rfl:j=0:=by omega
  simp [Addr.add]
 ·simp only [Addr.add,h,if_false]
  simp
theorem nds_trod {H:Type} {enc:TypeId×Value→H} {W:World} {base:Nat} {spare:Nat→Bool} {held:Bool} {v:Value} {fuel:Nat} {y:DataW H×List MemPlace}
 (hf':DataW.trod enc Tryz.prog W base spare held fuel 26 [v]=some y):∃ (l:List Nd) (a:Option Addr) (cap:Nat),v = .slice a l.length cap∧NdsAt W a l∧(l.length:Int)≤9223372036854775807∧l.length≤cap∧(a=none→cap=0):=by
 rcases Go.Deep.open_slice Tryz.underlying26 hf' with ⟨e,_⟩|⟨x,len,cap,m,n,D,Pl,e,_,hl,hm,hmm,_,hx⟩
 ·obtain rfl:v = .slice none 0 0:=by simpa using e
  exact ⟨[],none,0,rfl,NdsAt.nil _ _,by simp,by simp,fun _=>rfl⟩
 ·obtain rfl:v = .slice (some x) len cap:=by simpa using e
  have hc3:Tryz.prog.cellsOf 158=5:=by kernel_rfl
  have hlm:len≤m:=by rw [hmm];split<;>omega
  rw [maxLen] at hm
  have hspot:0<len→∃ b off,x=⟨b,off,none⟩:=by
   intro h0
   obtain ⟨cs',h1,h2⟩:=hx 0 (by omega)
   rw [hc3] at h1
   obtain ⟨_,hlen,hcell⟩:=World.cells?_some h1
   match cs',hlen with
   |[v0,v1,v2,v3,v4],_ =>
    have e0:=hcell 0 (by omega)
    obtain ⟨b,off,spot⟩:=x
    have hs:spot=none:=by simpa [Addr.add] using World.cell?_spot (w:=W) (a:=(⟨b,off,spot⟩:Addr)) (v:=v0) (by simpa [Addr.add] using e0)
    exact ⟨b,off,by rw [hs]⟩
  have each:∀ i,i<len→∃ q:Nd,∃ b off,x=⟨b,off,none⟩∧W.cell? ⟨b,off+i*5,none⟩=some (.int .i64 q.up)∧W.cell? ⟨b,off+i*5+1,none⟩=some (.int .i64 q.pz.rate)∧W.cell? ⟨b,off+i*5+2,none⟩=some (.int .i64 q.pz.burst)∧W.cell? ⟨b,off+i*5+3,none⟩=some (.int .i64 q.pz.level)∧W.cell? ⟨b,off+i*5+4,none⟩=some (.int .i64 q.pz.tm):=by
   intro i hi
   obtain ⟨cs',h1,h2⟩:=hx i (by omega)
   rw [hc3] at h1
   obtain ⟨_,hlen,hcell⟩:=World.cells?_some h1
   match cs',hlen with
   |[v0,v1,v2,v3,v4],_ =>
    obtain ⟨n0,rfl⟩:=int_field Tryz.underlying158 h2 0 _ rfl rfl (by kernel_rfl) .i64 Tryz.underlying2 v0 rfl
    obtain ⟨m1,y1,hp⟩:=part_of Tryz.underlying158 h2 1 _ rfl 1 4 156 rfl rfl (by kernel_rfl)
    simp only [List.drop_succ_cons,List.drop_zero,List.take_succ_cons,List.take_zero] at hp
    obtain ⟨n1,rfl⟩:=int_field Tryz.underlying156 hp 0 _ rfl rfl (by kernel_rfl) .i64 Tryz.underlying2 v1 rfl
    obtain ⟨n2,rfl⟩:=int_field Tryz.underlying156 hp 1 _ rfl rfl (by kernel_rfl) .i64 Tryz.underlying2 v2 rfl
    obtain ⟨n3,rfl⟩:=int_field Tryz.underlying156 hp 2 _ rfl rfl (by kernel_rfl) .i64 Tryz.underlying2 v3 rfl
    obtain ⟨n4,rfl⟩:=int_field Tryz.underlying156 hp 3 _ rfl rfl (by kernel_rfl) .i64 Tryz.underlying2 v4 rfl
    have e0:=hcell 0 (by omega)
    have e1:=hcell 1 (by omega)
    have e2:=hcell 2 (by omega)
    have e3:=hcell 3 (by omega)
    have e4:=hcell 4 (by omega)
    obtain ⟨b,off,rfl⟩:=hspot (by omega)
    rw [ndAddr b off i _ _ rfl] at e0 e1 e2 e3 e4
    exact ⟨⟨n0,n1,n2,n3,n4⟩,b,off,rfl,by simpa using e0,by simpa using e1,by simpa using e2,by simpa using e3,by simpa using e4⟩
  haveI:Inhabited Nd:=⟨⟨0,0,0,0,0⟩⟩
  obtain ⟨f,hff⟩:=Go.Deep.choose_lt each
  have hlen:((List.range len).map f).length=len:=by simp
  refine ⟨(List.range len).map f,some x,cap,by rw [hlen],?_,by rw [hlen];omega,by rw [hlen];exact hl,fun h=>by cases h⟩
  intro k hk
  rw [hlen] at hk
  obtain ⟨b,off,e,c0,c1,c2,c3,c4⟩:=hff k hk
  have hr:ndAt ((List.range len).map f) k=f k:=by simp [ndAt,hk]
  rw [hr]
  exact ⟨b,off,by rw [e],World.block_lt_of_cell? _ _ c0,c0,c1,c2,c3,c4⟩
open Go.ChangeShapes Go.WideShapes Go.ChangeAt Go.RowKit
theorem ints_trod {H:Type} {enc:TypeId×Value→H} {W:World} {base:Nat} {spare:Nat→Bool} {held:Bool} {v:Value} {fuel:Nat} {y:DataW H×List MemPlace}
 (hf:DataW.trod enc Tryz.prog W base spare held fuel 27 [v]=some y):∃ (l:List Int) (a:Option Addr) (cap:Nat),v = .slice a l.length cap∧IntsAt W a l∧(l.length:Int)≤9223372036854775807∧l.length≤cap∧(a=none→cap=0):=by
 rcases open_ints Tryz.underlying27 Tryz.underlying2 (by kernel_rfl) hf with ⟨e2,_⟩|⟨x,l,c,zs,e2,_,hl,hm,hz,_,hcell,_⟩
 ·obtain rfl:v = .slice none 0 0:=by simpa using e2
  exact ⟨[],none,0,rfl,IntsAt.nil _ _,by simp,by simp,fun _=>rfl⟩
 ·obtain rfl:v = .slice (some x) l c:=by simpa using e2
  rw [maxLen] at hm
  have hlz:l≤zs.length:=by rw [hz];split<;>omega
  have htl:(zs.take l).length=l:=by rw [List.length_take];omega
  refine ⟨zs.take l,some x,c,by rw [htl],?_,by rw [htl];omega,by rw [htl];exact hl,fun h=>by cases h⟩
  intro k hk
  rw [htl] at hk
  obtain ⟨b,off,spot⟩:=x
  have hspot:spot=none:=by simpa [Addr.add] using World.cell?_spot (hcell 0 (by omega))
  subst hspot
  have hc:=hcell k (by omega)
  have hc0:W.cell? ⟨b,off+k,none⟩=some (.int .i64 (zs.getD k 0)):=by
   by_cases hk0:k=0
   ·subst hk0;simpa [Addr.add] using hc
   ·simpa [Addr.add,hk0] using hc
  refine ⟨b,off,rfl,World.block_lt_of_cell? _ _ hc0,?_⟩
  rw [hc0,List.getElem?_take_of_lt hk]
  simp [List.getD]
open Go.ChangeShapes Go.WideShapes Go.ChangeAt Go.RowKit
theorem srAddr (b off i j:Nat) (x:Addr) (hx:x=⟨b,off,none⟩):(x.add (i*3)).add j=⟨b,off+i*3+j,none⟩:=by
 subst hx
 rw [Go.Deep.add_add]
 by_cases h:i*3+j=0
 ·obtain rfl:i=0:=by omega
  obtain rfl:j=0:=by omega
  simp [Addr.add]
 ·simp only [Addr.add,h,if_false]
  simp
theorem srs_trod {H:Type} {enc:TypeId×Value→H} {W:World} {base:Nat} {spare:Nat→Bool} {held:Bool} {v:Value} {fuel:Nat} {y:DataW H×List MemPlace}
 (hf':DataW.trod enc Tryz.prog W base spare held fuel 31 [v]=some y):∃ (l:List Sr) (a:Option Addr) (cap:Nat),v = .slice a l.length cap∧SrsAt W a l∧(l.length:Int)≤9223372036854775807∧l.length≤cap∧(a=none→cap=0):=by
 rcases Go.Deep.open_slice Tryz.underlying31 hf' with ⟨e,_⟩|⟨x,len,cap,m,n,D,Pl,e,_,hl,hm,hmm,_,hx⟩
 ·obtain rfl:v = .slice none 0 0:=by simpa using e
  exact ⟨[],none,0,rfl,SrsAt.nil _ _,by simp,by simp,fun _=>rfl⟩
 ·obtain rfl:v = .slice (some x) len cap:=by simpa using e
  have hc3:Tryz.prog.cellsOf 161=3:=by kernel_rfl
  have hlm:len≤m:=by rw [hmm];split<;>omega
  rw [maxLen] at hm
  have hspot:0<len→∃ b off,x=⟨b,off,none⟩:=by
   intro h0
   obtain ⟨cs',h1,h2⟩:=hx 0 (by omega)
   rw [hc3] at h1
   obtain ⟨_,hlen,hcell⟩:=World.cells?_some h1
   match cs',hlen with
   |[v0,v1,v2],_ =>
    have e0:=hcell 0 (by omega)
    obtain ⟨b,off,spot⟩:=x
    have hs:spot=none:=by simpa [Addr.add] using World.cell?_spot (w:=W) (a:=(⟨b,off,spot⟩:Addr)) (v:=v0) (by simpa [Addr.add] using e0)
    exact ⟨b,off,by rw [hs]⟩
  have each:∀ i,i<len→∃ q:Sr,∃ b off,x=⟨b,off,none⟩∧W.cell? ⟨b,off+i*3,none⟩=some (.int .i64 q.target)∧W.cell? ⟨b,off+i*3+1,none⟩=some (.int .i64 q.old)∧W.cell? ⟨b,off+i*3+2,none⟩=some (.int .i64 q.prob):=by
   intro i hi
   obtain ⟨cs',h1,h2⟩:=hx i (by omega)
   rw [hc3] at h1
   obtain ⟨_,hlen,hcell⟩:=World.cells?_some h1
   match cs',hlen with
   |[v0,v1,v2],_ =>
    obtain ⟨n0,rfl⟩:=int_field Tryz.underlying161 h2 0 _ rfl rfl (by kernel_rfl) .i64 Tryz.underlying2 v0 rfl
    obtain ⟨n1,rfl⟩:=int_field Tryz.underlying161 h2 1 _ rfl rfl (by kernel_rfl) .i64 Tryz.underlying2 v1 rfl
    obtain ⟨n2,rfl⟩:=int_field Tryz.underlying161 h2 2 _ rfl rfl (by kernel_rfl) .i64 Tryz.underlying2 v2 rfl
    have e0:=hcell 0 (by omega)
    have e1:=hcell 1 (by omega)
    have e2:=hcell 2 (by omega)
    obtain ⟨b,off,rfl⟩:=hspot (by omega)
    rw [srAddr b off i _ _ rfl] at e0 e1 e2
    exact ⟨⟨n0,n1,n2⟩,b,off,rfl,by simpa using e0,by simpa using e1,by simpa using e2⟩
  haveI:Inhabited Sr:=⟨⟨0,0,0⟩⟩
  obtain ⟨f,hff⟩:=Go.Deep.choose_lt each
  have hlen:((List.range len).map f).length=len:=by simp
  refine ⟨(List.range len).map f,some x,cap,by rw [hlen],?_,by rw [hlen];omega,by rw [hlen];exact hl,fun h=>by cases h⟩
  intro k hk
  rw [hlen] at hk
  obtain ⟨b,off,e,c0,c1,c2⟩:=hff k hk
  have hr:srAt ((List.range len).map f) k=f k:=by simp [srAt,hk]
  rw [hr]
  exact ⟨b,off,by rw [e],World.block_lt_of_cell? _ _ c0,c0,c1,c2⟩
open Go.ChangeShapes Go.WideShapes Go.ChangeAt Go.RowKit
theorem itAddr (b off i j:Nat) (x:Addr) (hx:x=⟨b,off,none⟩):(x.add (i*3)).add j=⟨b,off+i*3+j,none⟩:=by
 subst hx
 rw [Go.Deep.add_add]
 by_cases h:i*3+j=0
 ·obtain rfl:i=0:=by omega
  obtain rfl:j=0:=by omega
  simp [Addr.add]
 ·simp only [Addr.add,h,if_false]
  simp
theorem its_trod {H:Type} {enc:TypeId×Value→H} {W:World} {base:Nat} {spare:Nat→Bool} {held:Bool} {v:Value} {fuel:Nat} {y:DataW H×List MemPlace}
 (hf':DataW.trod enc Tryz.prog W base spare held fuel 212 [v]=some y):∃ (l:List It) (a:Option Addr) (cap:Nat),v = .slice a l.length cap∧ItsAt W a l∧(l.length:Int)≤9223372036854775807∧l.length≤cap∧(a=none→cap=0):=by
 rcases Go.Deep.open_slice Tryz.underlying212 hf' with ⟨e,_⟩|⟨x,len,cap,m,n,D,Pl,e,_,hl,hm,hmm,_,hx⟩
 ·obtain rfl:v = .slice none 0 0:=by simpa using e
  exact ⟨[],none,0,rfl,ItsAt.nil _ _,by simp,by simp,fun _=>rfl⟩
 ·obtain rfl:v = .slice (some x) len cap:=by simpa using e
  have hc3:Tryz.prog.cellsOf 246=3:=by kernel_rfl
  have hlm:len≤m:=by rw [hmm];split<;>omega
  rw [maxLen] at hm
  have hspot:0<len→∃ b off,x=⟨b,off,none⟩:=by
   intro h0
   obtain ⟨cs',h1,h2⟩:=hx 0 (by omega)
   rw [hc3] at h1
   obtain ⟨_,hlen,hcell⟩:=World.cells?_some h1
   match cs',hlen with
   |[v0,v1,v2],_ =>
    have e0:=hcell 0 (by omega)
    obtain ⟨b,off,spot⟩:=x
    have hs:spot=none:=by simpa [Addr.add] using World.cell?_spot (w:=W) (a:=(⟨b,off,spot⟩:Addr)) (v:=v0) (by simpa [Addr.add] using e0)
    exact ⟨b,off,by rw [hs]⟩
  have each:∀ i,i<len→∃ q:It,∃ b off,x=⟨b,off,none⟩∧W.cell? ⟨b,off+i*3,none⟩=some (.int .i64 q.id)∧W.cell? ⟨b,off+i*3+1,none⟩=some (.int .i64 q.size)∧W.cell? ⟨b,off+i*3+2,none⟩=some (.int .i64 q.tm):=by
   intro i hi
   obtain ⟨cs',h1,h2⟩:=hx i (by omega)
   rw [hc3] at h1
   obtain ⟨_,hlen,hcell⟩:=World.cells?_some h1
   match cs',hlen with
   |[v0,v1,v2],_ =>
    obtain ⟨n0,rfl⟩:=int_field Tryz.underlying246 h2 0 _ rfl rfl (by kernel_rfl) .i64 Tryz.underlying2 v0 rfl
    obtain ⟨n1,rfl⟩:=int_field Tryz.underlying246 h2 1 _ rfl rfl (by kernel_rfl) .i64 Tryz.underlying2 v1 rfl
    obtain ⟨n2,rfl⟩:=int_field Tryz.underlying246 h2 2 _ rfl rfl (by kernel_rfl) .i64 Tryz.underlying2 v2 rfl
    have e0:=hcell 0 (by omega)
    have e1:=hcell 1 (by omega)
    have e2:=hcell 2 (by omega)
    obtain ⟨b,off,rfl⟩:=hspot (by omega)
    rw [itAddr b off i _ _ rfl] at e0 e1 e2
    exact ⟨⟨n0,n1,n2⟩,b,off,rfl,by simpa using e0,by simpa using e1,by simpa using e2⟩
  haveI:Inhabited It:=⟨⟨0,0,0⟩⟩
  obtain ⟨f,hff⟩:=Go.Deep.choose_lt each
  have hlen:((List.range len).map f).length=len:=by simp
  refine ⟨(List.range len).map f,some x,cap,by rw [hlen],?_,by rw [hlen];omega,by rw [hlen];exact hl,fun h=>by cases h⟩
  intro k hk
  rw [hlen] at hk
  obtain ⟨b,off,e,c0,c1,c2⟩:=hff k hk
  have hr:itAt ((List.range len).map f) k=f k:=by simp [itAt,hk]
  rw [hr]
  exact ⟨b,off,by rw [e],World.block_lt_of_cell? _ _ c0,c0,c1,c2⟩
open Go.ChangeShapes Go.WideShapes Go.ChangeAt Go.RowKit
theorem izAddr (b off i:Nat) (x:Addr) (hx:x=⟨b,off,none⟩):x.add i=⟨b,off+i,none⟩:=by
 subst hx
 by_cases h:i=0
 ·subst h;simp [Addr.add]
 ·simp [Addr.add,h]
theorem izs_trod {H:Type} {enc:TypeId×Value→H} {W:World} {base:Nat} {spare:Nat→Bool} {held:Bool} {v:Value} {fuel:Nat} {y:DataW H×List MemPlace}
 (hf':DataW.trod enc Tryz.prog W base spare held fuel 28 [v]=some y) :
 ∃ (ls:List (List It)) (a:Option Addr) (cap:Nat),v = .slice a ls.length cap∧IzAt W a ls∧(ls.length:Int)≤9223372036854775807∧∀ k,k<ls.length→((izAt ls k).length:Int)≤9223372036854775807:=by
 rcases Go.Deep.open_slice1 Tryz.underlying28 (by kernel_rfl) hf' with ⟨e,_⟩|⟨x,len,cap,m,n,V,D,Pl,e,_,hl,hm,hmm,_,hx⟩
 ·obtain rfl:v = .slice none 0 0:=by simpa using e
  exact ⟨[],none,0,rfl,IzAt.nil _ _,by simp,fun k hk=>by simp at hk⟩
 ·obtain rfl:v = .slice (some x) len cap:=by simpa using e
  have hlm:len≤m:=by rw [hmm];split<;>omega
  rw [maxLen] at hm
  have hspot:0<len→∃ b off,x=⟨b,off,none⟩:=by
   intro h0
   have e0:=(hx 0 (by omega)).1
   obtain ⟨b,off,spot⟩:=x
   have hs:spot=none:=by simpa [Addr.add] using World.cell?_spot (w:=W) (a:=(⟨b,off,spot⟩:Addr)) (v:=V 0) (by simpa [Addr.add] using e0)
   exact ⟨b,off,by rw [hs]⟩
  have each:∀ i,i<len→∃ q:List It,∃ b off ak ck,x=⟨b,off,none⟩∧b<W.heap.size∧W.cell? ⟨b,off+i,none⟩=some (.slice ak q.length ck)∧ItsAt W ak q∧(q.length≤ck∧(ak=none→ck=0))∧(q.length:Int)≤9223372036854775807:=by
   intro i hi
   obtain ⟨h1,h2⟩:=hx i (by omega)
   obtain ⟨q,ak,ck,e1,e2,e3,e4⟩:=its_trod h2
   obtain ⟨b,off,rfl⟩:=hspot (by omega)
   rw [izAddr b off i _ rfl,e1] at h1
   exact ⟨q,b,off,ak,ck,rfl,World.block_lt_of_cell? _ _ h1,h1,e2,e4,e3⟩
  haveI:Inhabited (List It):=⟨[]⟩
  obtain ⟨f,hff⟩:=Go.Deep.choose_lt each
  have hlen:((List.range len).map f).length=len:=by simp
  have hr:∀ k,k<len→izAt ((List.range len).map f) k=f k:=fun k hk=>by simp [izAt,hk]
  refine ⟨(List.range len).map f,some x,cap,by rw [hlen],fun k hk=>?_,by rw [hlen];omega,fun k hk=>?_⟩
  ·rw [hlen] at hk
   obtain ⟨b,off,ak,ck,e1,e2,e3,e4,e5,_⟩:=hff k hk
   rw [hr k hk]
   exact ⟨b,off,ak,ck,by rw [e1],e2,e3,e4,e5⟩
  ·rw [hlen] at hk
   obtain ⟨b,off,ak,ck,e1,e2,e3,e4,e5,e6⟩:=hff k hk
   rw [hr k hk]
   exact e6
open Go.ChangeShapes Go.WideShapes Go.ChangeAt Go.RowKit
theorem fwAddr (b off i j:Nat) (x:Addr) (hx:x=⟨b,off,none⟩):(x.add (i*3)).add j=⟨b,off+i*3+j,none⟩:=by
 subst hx
 rw [Go.Deep.add_add]
 by_cases h:i*3+j=0
 ·obtain rfl:i=0:=by omega
  obtain rfl:j=0:=by omega
  simp [Addr.add]
 ·simp only [Addr.add,h,if_false]
  simp
theorem fws_trod {H:Type} {enc:TypeId×Value→H} {W:World} {base:Nat} {spare:Nat→Bool} {held:Bool} {v:Value} {fuel:Nat} {y:DataW H×List MemPlace}
 (hf':DataW.trod enc Tryz.prog W base spare held fuel 32 [v]=some y):∃ (l:List Fw) (a:Option Addr) (cap:Nat),v = .slice a l.length cap∧FwsAt W a l∧(l.length:Int)≤9223372036854775807∧∀ k,k<l.length→((fwAt l k).sizes.length:Int)≤9223372036854775807:=by
 rcases Go.Deep.open_slice Tryz.underlying32 hf' with ⟨e,_⟩|⟨x,len,cap,m,n,D,Pl,e,_,hl,hm,hmm,_,hx⟩
 ·obtain rfl:v = .slice none 0 0:=by simpa using e
  exact ⟨[],none,0,rfl,FwsAt.nil _ _,by simp,fun k hk=>by simp at hk⟩
 ·obtain rfl:v = .slice (some x) len cap:=by simpa using e
  have hc3:Tryz.prog.cellsOf 214=3:=by kernel_rfl
  have hlm:len≤m:=by rw [hmm];split<;>omega
  rw [maxLen] at hm
  have hspot:0<len→∃ b off,x=⟨b,off,none⟩:=by
   intro h0
   obtain ⟨cs',h1,h2⟩:=hx 0 (by omega)
   rw [hc3] at h1
   obtain ⟨_,hlen,hcell⟩:=World.cells?_some h1
   match cs',hlen with
   |[v0,v1,v2],_ =>
    have e0:=hcell 0 (by omega)
    obtain ⟨b,off,spot⟩:=x
    have hs:spot=none:=by simpa [Addr.add] using World.cell?_spot (w:=W) (a:=(⟨b,off,spot⟩:Addr)) (v:=v0) (by simpa [Addr.add] using e0)
    exact ⟨b,off,by rw [hs]⟩
  have each:∀ i,i<len→∃ q:Fw,∃ b off ak ck,x=⟨b,off,none⟩∧(W.cell? ⟨b,off+i*3,none⟩=some (.int .i64 q.weight)∧W.cell? ⟨b,off+i*3+1,none⟩=some (.int .i64 q.finish)∧W.cell? ⟨b,off+i*3+2,none⟩=some (.slice ak q.sizes.length ck))∧IntsAt W ak q.sizes∧(q.sizes.length≤ck∧(ak=none→ck=0))∧(q.sizes.length:Int)≤9223372036854775807:=by
   intro i hi
   obtain ⟨cs',h1,h2⟩:=hx i (by omega)
   rw [hc3] at h1
   obtain ⟨_,hlen,hcell⟩:=World.cells?_some h1
   match cs',hlen with
   |[v0,v1,v2],_ =>
    obtain ⟨n0,rfl⟩:=int_field Tryz.underlying214 h2 0 _ rfl rfl (by kernel_rfl) .i64 Tryz.underlying2 v0 rfl
    obtain ⟨n1,rfl⟩:=int_field Tryz.underlying214 h2 1 _ rfl rfl (by kernel_rfl) .i64 Tryz.underlying2 v1 rfl
    obtain ⟨nn,yy,hy⟩:=field_of Tryz.underlying214 h2 2 _ rfl rfl (by kernel_rfl) v2 rfl
    obtain ⟨zl,ak,ck,rfl,q1,q2,q3,q4⟩:=ints_trod hy
    have e0:=hcell 0 (by omega)
    have e1:=hcell 1 (by omega)
    have e2:=hcell 2 (by omega)
    obtain ⟨b,off,rfl⟩:=hspot (by omega)
    rw [fwAddr b off i _ _ rfl] at e0 e1 e2
    exact ⟨⟨n0,n1,zl⟩,b,off,ak,ck,rfl,⟨by simpa using e0,by simpa using e1,by simpa using e2⟩,q1,⟨q3,q4⟩,q2⟩
  haveI:Inhabited Fw:=⟨⟨0,0,[]⟩⟩
  obtain ⟨f,hff⟩:=Go.Deep.choose_lt each
  have hlen:((List.range len).map f).length=len:=by simp
  have hr:∀ k,k<len→fwAt ((List.range len).map f) k=f k:=fun k hk=>by simp [fwAt,hk]
  refine ⟨(List.range len).map f,some x,cap,by rw [hlen],fun k hk=>?_,by rw [hlen];omega,fun k hk=>?_⟩
  ·rw [hlen] at hk
   obtain ⟨b,off,ak,ck,e1,e2,e3,e4,e5⟩:=hff k hk
   rw [hr k hk]
   exact ⟨b,off,ak,ck,by rw [e1],World.block_lt_of_cell? _ _ e2.1,e2,e3,e4⟩
  ·rw [hlen] at hk
   obtain ⟨b,off,ak,ck,e1,e2,e3,e4,e5⟩:=hff k hk
   rw [hr k hk]
   exact e5
open Go.ChangeShapes Go.WideShapes Go.ChangeAt Go.RowKit
theorem gtArray {cs:Array Value} (h:cs.size=14):∃ c0 c1 c2 c3 c4 c5 c6 c7 c8 c9 c10 c11 c12 c13,cs=#[c0,c1,c2,c3,c4,c5,c6,c7,c8,c9,c10,c11,c12,c13]:=by
 obtain ⟨l⟩:=cs
 match l,h with
 |[c0,c1,c2,c3,c4,c5,c6,c7,c8,c9,c10,c11,c12,c13],_=>exact ⟨c0,c1,c2,c3,c4,c5,c6,c7,c8,c9,c10,c11,c12,c13,rfl⟩
theorem gt_open {H:Type} {enc:TypeId×Value→H} {W:World} {r:Reach} {b0 base:Nat} {spare:Nat→Bool} {held:Bool} {v:Value} {d:DataW H} {p:List MemPlace} (hv:Value.okWide Tryz.prog W r b0 36 v)
 (h:DataW.Trod enc Tryz.prog W base spare held 36 v d p):∃ (g:Gt) (x:Ga),v=g.val x∧GtV W x g∧GtLen g:=by
 obtain ⟨cs,rfl,hsz⟩:=okWide_struct Tryz.underlying36 hv
 obtain ⟨c0,c1,c2,c3,c4,c5,c6,c7,c8,c9,c10,c11,c12,c13,rfl⟩:=gtArray (hsz.trans (by kernel_rfl))
 obtain ⟨fuel,hf⟩:=h
 have hf':DataW.trod enc Tryz.prog W base spare held fuel 36 [c0,c1,c2,c3,c4,c5,c6,c7,c8,c9,c10,c11,c12,c13]=some (d,p):=by simpa [Value.cells] using hf
 obtain ⟨mL,yL,hL⟩:=part_of Tryz.underlying36 hf' 0 _ rfl 0 3 23 rfl rfl (by kernel_rfl)
 simp only [List.drop_zero,List.take_succ_cons,List.take_zero] at hL
 obtain ⟨k0,rfl⟩:=int_field Tryz.underlying23 hL 0 _ rfl rfl (by kernel_rfl) .i64 Tryz.underlying2 c0 rfl
 obtain ⟨k1,rfl⟩:=int_field Tryz.underlying23 hL 1 _ rfl rfl (by kernel_rfl) .i64 Tryz.underlying2 c1 rfl
 obtain ⟨k2,rfl⟩:=int_field Tryz.underlying23 hL 2 _ rfl rfl (by kernel_rfl) .i64 Tryz.underlying2 c2 rfl
 obtain ⟨mR,yR,hR⟩:=part_of Tryz.underlying36 hf' 1 _ rfl 3 1 24 rfl rfl (by kernel_rfl)
 simp only [List.drop_succ_cons,List.drop_zero,List.take_succ_cons,List.take_zero] at hR
 obtain ⟨l1,a1,q1,rfl,u1,v1,s1,w1⟩:=rts_trod hR
 obtain ⟨mU,yU,hU⟩:=part_of Tryz.underlying36 hf' 2 _ rfl 4 1 25 rfl rfl (by kernel_rfl)
 simp only [List.drop_succ_cons,List.drop_zero,List.take_succ_cons,List.take_zero] at hU
 obtain ⟨l2,a2,q2,rfl,u2,v2,s2,w2⟩:=rus_trod hU
 obtain ⟨mT,yT,hT⟩:=part_of Tryz.underlying36 hf' 3 _ rfl 5 1 26 rfl rfl (by kernel_rfl)
 simp only [List.drop_succ_cons,List.drop_zero,List.take_succ_cons,List.take_zero] at hT
 obtain ⟨l3,a3,q3,rfl,u3,v3,s3,w3⟩:=nds_trod hT
 obtain ⟨mI,yI,hI⟩:=part_of Tryz.underlying36 hf' 4 _ rfl 6 1 27 rfl rfl (by kernel_rfl)
 simp only [List.drop_succ_cons,List.drop_zero,List.take_succ_cons,List.take_zero] at hI
 obtain ⟨l4,a4,q4,rfl,u4,v4,s4,w4⟩:=ints_trod hI
 obtain ⟨mW,yW,hW⟩:=part_of Tryz.underlying36 hf' 5 _ rfl 7 2 30 rfl rfl (by kernel_rfl)
 simp only [List.drop_succ_cons,List.drop_zero,List.take_succ_cons,List.take_zero] at hW
 obtain ⟨mo,rfl⟩:=int_field Tryz.underlying30 hW 0 _ rfl rfl (by kernel_rfl) .i64 Tryz.underlying2 c7 rfl
 obtain ⟨n5,y5,h5⟩:=field_of Tryz.underlying30 hW 1 _ rfl rfl (by kernel_rfl) c8 rfl
 obtain ⟨l5,a5,q5,rfl,u5,v5,s5⟩:=izs_trod h5
 obtain ⟨mS,yS,hS⟩:=part_of Tryz.underlying36 hf' 6 _ rfl 9 1 31 rfl rfl (by kernel_rfl)
 simp only [List.drop_succ_cons,List.drop_zero,List.take_succ_cons,List.take_zero] at hS
 obtain ⟨l6,a6,q6,rfl,u6,v6,s6,w6⟩:=srs_trod hS
 obtain ⟨mF,yF,hF⟩:=part_of Tryz.underlying36 hf' 7 _ rfl 10 2 34 rfl rfl (by kernel_rfl)
 simp only [List.drop_succ_cons,List.drop_zero,List.take_succ_cons,List.take_zero] at hF
 obtain ⟨nw,rfl⟩:=int_field Tryz.underlying34 hF 0 _ rfl rfl (by kernel_rfl) .i64 Tryz.underlying2 c10 rfl
 obtain ⟨n7,y7,h7⟩:=field_of Tryz.underlying34 hF 1 _ rfl rfl (by kernel_rfl) c11 rfl
 obtain ⟨l7,a7,q7,rfl,u7,v7,s7⟩:=fws_trod h7
 obtain ⟨mN8,yN8,hN8⟩:=part_of Tryz.underlying36 hf' 8 _ rfl 12 1 2 rfl rfl (by kernel_rfl)
 simp only [List.drop_succ_cons,List.drop_zero,List.take_succ_cons,List.take_zero] at hN8
 obtain ⟨nx,e8,_⟩:=DataW.trod_int Tryz.underlying2 hN8
 obtain rfl:c12 = .int .i64 nx:=by simpa using e8
 obtain ⟨mN9,yN9,hN9⟩:=part_of Tryz.underlying36 hf' 9 _ rfl 13 1 2 rfl rfl (by kernel_rfl)
 simp only [List.drop_succ_cons,List.drop_zero,List.take_succ_cons,List.take_zero] at hN9
 obtain ⟨dr,e9,_⟩:=DataW.trod_int Tryz.underlying2 hN9
 obtain rfl:c13 = .int .i64 dr:=by simpa using e9
 exact ⟨⟨⟨k0,k1,k2⟩,l1,l2,l3,l4,⟨mo,l5⟩,l6,⟨nw,l7⟩,nx,dr⟩,⟨a1,q1,a2,q2,a3,q3,a4,q4,a5,q5,a6,q6,a7,q7⟩,rfl,⟨⟨_,_,rfl,u1,s1,w1⟩,⟨_,_,rfl,u2,s2,w2⟩,⟨_,_,rfl,u3,s3,w3⟩,⟨_,_,rfl,u4,s4,w4⟩,⟨_,_,rfl,u5⟩,⟨_,_,rfl,u6,s6,w6⟩,⟨_,_,rfl,u7⟩⟩,⟨v1,v2,v3,v4,v5,s5,v6,v7,s7⟩⟩
end Go.Proofs.YtmfabeghfdoibaaGreat
