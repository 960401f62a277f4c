import Derived.Test.YtgebghkcikmfaaaGreatDoorQP12Nums
import Derived.Test.YtgebghkcikmfaaaGreatDoorQP17RwFn
import Derived.Test.YtgebghkcikmfaaaGreatDoorQP19FsSpec
set_option maxHeartbeats 3200000
set_option maxRecDepth 100000
namespace Go.Proofs.YtgebghkcikmfaaaGreatDoor
open Go.RowKit
theorem specNet (net bits:Int) (w:World) :
 Calls Tryz.prog 209 #[.int .i64 net,.int .i64 bits] w fun e w'=>e = .returned (.bool (netB net bits))∧w'=w:=by
 have Hn:Hid (netB net bits=_):=rfl
 cases hb:inB 0 32 bits
 ·have hb':netB net bits=false:=by rw [netB,hb];rfl
  rw [hb']
  clear Hn hb'
  have C:=specIn bits 0 32 w
  rw [hb] at C
  clear hb
  go_enter Tryz.func209,Tryz.ntmps209
  go_wp2_with (go_at_call 72;refine C.mono ?_;rintro e w' ⟨rfl,rfl⟩)
  go_ret
  exact ⟨rfl,rfl⟩
 cases hn:inB 0 4294967295 net
 ·have hb':netB net bits=false:=by rw [netB,hb,hn];rfl
  rw [hb']
  clear Hn hb'
  have C:=specIn bits 0 32 w
  have D:=specAddr net w
  rw [hb] at C
  rw [hn] at D
  clear hb hn
  go_enter Tryz.func209,Tryz.ntmps209
  go_wp2_with (first|(go_at_call 72;refine C.mono ?_;rintro e w' ⟨rfl,rfl⟩)|(go_at_call 259;refine D.mono ?_;rintro e w' ⟨rfl,rfl⟩))
  go_ret
  exact ⟨rfl,rfl⟩
 have hnb:netB net bits=decide (net%2 ^ (32-bits).toNat=0):=by rw [netB,hb,hn];rfl
 have C:=specIn bits 0 32 w
 have D:=specAddr net w
 rw [hb] at C
 rw [hn] at D
 clear Hn
 obtain ⟨s,hs,rfl⟩:=bits_of hb
 rw [pow_of hs] at hnb
 rw [hnb]
 have hn':=inB_true.1 hn
 clear hb hn hnb
 have hw:wrap64 (2 ^ (32-(32-s)))=2 ^ s:=by
  rw [show 32-(32-s)=s by omega]
  have:=pow_le32 hs
  have:=pow_pos' s
  unfold wrap64;omega
 have hm:=pow_pos' s
 have hm1:=pow_le32 hs
 generalize (2:Int) ^ s=m at hw hm hm1 ⊢
 have hm0:¬ m=0:=by omega
 have ht:net.tmod m=net%m:=Int.tmod_eq_emod_of_nonneg hn'.1
 go_enter Tryz.func209,Tryz.ntmps209
 go_wp2_with (first|(go_at_call 72;refine C.mono ?_;rintro e w' ⟨rfl,rfl⟩)|(go_at_call 259;refine D.mono ?_;rintro e w' ⟨rfl,rfl⟩))
 go_ret
 exact ⟨rfl,rfl⟩
def Ru.ok (r:Ru):Bool:=inB 1 999 r.id&&(inB 0 99 r.prio&&(netB r.snet r.sbits&&(netB r.dnet r.dbits&&(inB (-1) 255 r.proto&&(inB 0 65535 r.high&&(inB 0 r.high r.low&&inB 0 15 r.cls))))))
theorem specRule (r:Ru) (w:World) :
 Calls Tryz.prog 141 #[r.val] w fun e w'=>e = .returned (.bool r.ok)∧w'=w.alloc (.cells r.cells.toArray 136):=by
 have Hok:Hid (r.ok=(inB 1 999 r.id&&(inB 0 99 r.prio&&(netB r.snet r.sbits&&(netB r.dnet r.dbits&&(inB (-1) 255 r.proto&&(inB 0 65535 r.high&&(inB 0 r.high r.low&&inB 0 15 r.cls)))))))):=rfl
 obtain ⟨i,p,sn,sb,dn,db,pr,lo,hi,cl⟩:=r
 generalize Ru.ok _=ok at Hok ⊢
 simp only [Ru.val,Ru.cells] at Hok ⊢
 have A1:=fun w=>specIn i 1 999 w
 have A2:=fun w=>specIn p 0 99 w
 have A3:=fun w=>specNet sn sb w
 have A4:=fun w=>specNet dn db w
 have A5:=fun w=>specIn pr (-1) 255 w
 have A6:=fun w=>specIn hi 0 65535 w
 have A7:=fun w=>specIn lo 0 hi w
 have A8:=fun w=>specIn cl 0 15 w
 generalize inB 1 999 i=b1 at A1 Hok
 generalize inB 0 99 p=b2 at A2 Hok
 generalize netB sn sb=b3 at A3 Hok
 generalize netB dn db=b4 at A4 Hok
 generalize inB (-1) 255 pr=b5 at A5 Hok
 generalize inB 0 65535 hi=b6 at A6 Hok
 generalize inB 0 hi lo=b7 at A7 Hok
 generalize inB 0 15 cl=b8 at A8 Hok
 have A1':Hid _:=A1
 have A2':Hid _:=A2
 have A3':Hid _:=A3
 have A4':Hid _:=A4
 have A5':Hid _:=A5
 have A6':Hid _:=A6
 have A7':Hid _:=A7
 have A8':Hid _:=A8
 clear A1 A2 A3 A4 A5 A6 A7 A8
 go_enter Tryz.func141,Tryz.ntmps141
 go_wp2_with fail
 refine (A1'.out _).mono ?_
 rintro e w' ⟨rfl,rfl⟩
 cases b1
 ·go_wp2
  go_ret
  exact ⟨ret_bool (by rw [Hok.out];rfl),rfl⟩
 go_wp2_with fail
 refine (A2'.out _).mono ?_
 rintro e w' ⟨rfl,rfl⟩
 cases b2
 ·go_wp2
  go_ret
  exact ⟨ret_bool (by rw [Hok.out];rfl),rfl⟩
 go_wp2_with fail
 refine (A3'.out _).mono ?_
 rintro e w' ⟨rfl,rfl⟩
 cases b3
 ·go_wp2
  go_ret
  exact ⟨ret_bool (by rw [Hok.out];rfl),rfl⟩
 go_wp2_with fail
 refine (A4'.out _).mono ?_
 rintro e w' ⟨rfl,rfl⟩
 cases b4
 ·go_wp2
  go_ret
  exact ⟨ret_bool (by rw [Hok.out];rfl),rfl⟩
 go_wp2_with fail
 refine (A5'.out _).mono ?_
 rintro e w' ⟨rfl,rfl⟩
 cases b5
 ·go_wp2
  go_ret
  exact ⟨ret_bool (by rw [Hok.out];rfl),rfl⟩
 go_wp2_with fail
 refine (A6'.out _).mono ?_
 rintro e w' ⟨rfl,rfl⟩
 cases b6
 ·go_wp2
  go_ret
  exact ⟨ret_bool (by rw [Hok.out];rfl),rfl⟩
 go_wp2_with fail
 refine (A7'.out _).mono ?_
 rintro e w' ⟨rfl,rfl⟩
 cases b7
 ·go_wp2
  go_ret
  exact ⟨ret_bool (by rw [Hok.out];rfl),rfl⟩
 go_wp2_with fail
 refine (A8'.out _).mono ?_
 rintro e w' ⟨rfl,rfl⟩
 go_wp2
 go_ret
 exact ⟨ret_bool (by rw [Hok.out];rfl),rfl⟩
def goodR (l:List Ru) (i:Nat):Bool:=(ruAt l i).ok&&(decide (i=0)||decide ((ruAt l (i-1)).id<(ruAt l i).id))
def goodRs (l:List Ru) (k:Nat):Bool:=(List.range k).all (goodR l)
theorem goodRs_succ (l:List Ru) (k:Nat):goodRs l (k+1)=(goodRs l k&&goodR l k):=by simp [goodRs,List.range_succ]
theorem goodRs_hit {l:List Ru} {k n:Nat} (h:k<n) (g:goodR l k=false):goodRs l n=false:=by
 unfold goodRs
 rw [List.all_eq_false]
 exact ⟨k,List.mem_range.2 h,by simp [g]⟩
def rusOk (l:List Ru):Bool:=decide (l.length≤40)&&goodRs l l.length
def Pz.ok (p:Pz):Bool:=inB 0 1000 p.rate&&(inB 1 100000 p.burst&&(inB 0 p.burst p.level&&inB 0 1099511627776 p.tm))
theorem Pz.ok_iff {p:Pz}:p.ok=true↔(0≤p.rate∧p.rate≤1000)∧(1≤p.burst∧p.burst≤100000)∧(0≤p.level∧p.level≤p.burst)∧(0≤p.tm∧p.tm≤1099511627776):=by
 unfold Pz.ok
 simp only [Bool.and_eq_true,inB_true]
def Nd.fits (x:Nd) (k:Nat) (t0:Int):Bool:=x.pz.ok&&(decide (x.pz.tm=t0)&&(if k=0 then decide (x.up = -1) else (decide (0≤x.up)&&decide (x.up<(k:Int)))))
def treeB (l:List Nd) (k:Nat):Bool:=(ndAt l k).fits k (ndAt l 0).pz.tm
def tok (l:List Nd):Bool:=decide (1≤l.length)&&(decide (l.length≤12)&&(List.range l.length).all (treeB l))
theorem tok_iff {l:List Nd}:tok l=true↔1≤l.length∧l.length≤12∧∀ k,k<l.length→treeB l k=true:=by
 unfold tok
 simp only [Bool.and_eq_true,decide_eq_true_eq,List.all_eq_true,List.mem_range]
theorem treeB_iff {l:List Nd} {k:Nat}:treeB l k=true↔(ndAt l k).pz.ok=true∧(ndAt l k).pz.tm=(ndAt l 0).pz.tm∧(k=0→(ndAt l k).up = -1)∧(k≠0→0≤(ndAt l k).up∧(ndAt l k).up<k):=by
 unfold treeB Nd.fits
 by_cases h:k=0
 ·simp only [Bool.and_eq_true,decide_eq_true_eq,if_pos h]
  constructor
  ·rintro ⟨a,b,c⟩;exact ⟨a,b,fun _=>c,fun g=>absurd h g⟩
  ·rintro ⟨a,b,c,_⟩;exact ⟨a,b,c h⟩
 ·simp only [Bool.and_eq_true,decide_eq_true_eq,if_neg h]
  constructor
  ·rintro ⟨a,b,c⟩;exact ⟨a,b,fun g=>absurd g h,fun _=>c⟩
  ·rintro ⟨a,b,_,c⟩;exact ⟨a,b,c h⟩
theorem tok_at {l:List Nd} (h:tok l=true) {k:Nat} (hk:k<l.length):(ndAt l k).pz.ok=true∧(ndAt l k).pz.tm=(ndAt l 0).pz.tm ∧ -1≤(ndAt l k).up∧(ndAt l k).up<k∧(k≠0→0≤(ndAt l k).up):=by
 obtain ⟨a,b,c,d⟩:=treeB_iff.1 ((tok_iff.1 h).2.2 k hk)
 refine ⟨a,b,?_⟩
 by_cases g:k=0
 ·have:=c g;omega
 ·have:=d g;omega
def tin (l:List Nd) (n:Int):Bool:=tok l&&(decide (0≤n)&&decide (n<(l.length:Int)))
theorem tin_iff {l:List Nd} {n:Int}:tin l n=true↔tok l=true∧0≤n∧n<l.length:=by
 unfold tin
 simp only [Bool.and_eq_true,decide_eq_true_eq]
def pathF (l:List Nd):Nat→Int→List Int
 |0,_=>[]
 |f+1,n=>if n<0 then [] else n :: pathF l f (ndAt l n.toNat).up
def path (l:List Nd) (n:Int):List Int:=pathF l (n+1).toNat n
theorem pathF_same {l:List Nd} (h:tok l=true):∀ (f1 f2:Nat) (n:Int),n<l.length→(n+1).toNat≤f1→(n+1).toNat≤f2→pathF l f1 n=pathF l f2 n:=by
 intro f1
 induction f1 with
 |zero =>
  intro f2 n hl h1 h2
  cases f2 with
  |zero=>rfl
  |succ f2 =>
   have:n<0:=by omega
   simp [pathF,this]
 |succ f1 ih =>
  intro f2 n hl h1 h2
  by_cases hn:n<0
  ·cases f2 with
   |zero=>simp [pathF,hn]
   |succ f2=>simp [pathF,hn]
  ·cases f2 with
   |zero=>omega
   |succ f2 =>
    have hk:=tok_at h (k:=n.toNat) (by omega)
    simp only [pathF,if_neg hn]
    rw [ih f2 (ndAt l n.toNat).up (by omega) (by omega) (by omega)]
theorem path_end (l:List Nd):path l (-1)=[]:=rfl
theorem path_next {l:List Nd} {n:Int} (h:tok l=true) (h0:0≤n) (h1:n<l.length):path l n=n :: path l (ndAt l n.toNat).up:=by
 have hk:=tok_at h (k:=n.toNat) (by omega)
 unfold path
 obtain ⟨m,hm⟩:∃ m,(n+1).toNat=m+1:=⟨n.toNat,by omega⟩
 rw [hm]
 simp only [pathF,if_neg (show ¬ n<0 by omega)]
 rw [pathF_same h m _ _ (by omega) (by omega) nlr]
theorem path_rec {l:List Nd} (h:tok l=true) {P:Int→List Int→Prop} (e:P (-1) []) (s:∀ (n:Int) (p:List Int),0≤n→n<l.length→p=path l (ndAt l n.toNat).up→P (ndAt l n.toNat).up p→P n (n :: p)) :
 ∀ (f:Nat) (n:Int),-1≤n→n<l.length→(n+1).toNat≤f→P n (path l n):=by
 intro f
 induction f with
 |zero =>
  intro n a b c
  obtain rfl:n = -1:=by omega
  exact e
 |succ f ih =>
  intro n a b c
  by_cases hn:n<0
  ·obtain rfl:n = -1:=by omega
   exact e
  ·have hk:=tok_at h (k:=n.toNat) (by omega)
   rw [path_next h (by omega) b]
   exact s n _ (by omega) b rfl (ih _ (by omega) (by omega) (by omega))
theorem path_mem {l:List Nd} {n:Int} (h:tok l=true) (h0 : -1≤n) (h1:n<l.length):∀ x∈path l n,0≤x∧x≤n:=by
 refine path_rec h (P:=fun n p=>∀ x∈p,0≤x∧x≤n) (by simp) ?_ _ n h0 h1 nlr
 intro n p a b _ ih x hx
 have hk:=tok_at h (k:=n.toNat) (by omega)
 rcases List.mem_cons.1 hx with rfl|hx
 ·omega
 ·have:=ih x hx;omega
theorem path_len {l:List Nd} {n:Int} (h:tok l=true) (h0 : -1≤n) (h1:n<l.length):((path l n).length:Int)≤n+1:=by
 refine path_rec h (P:=fun n p=>(p.length:Int)≤n+1) (by simp) ?_ _ n h0 h1 nlr
 intro n p a b _ ih
 have hk:=tok_at h (k:=n.toNat) (by omega)
 simp only [List.length_cons]
 omega
theorem path_pos {l:List Nd} {n:Int} (h:tok l=true) (h0:0≤n) (h1:n<l.length):0<(path l n).length:=by
 rw [path_next h h0 h1];simp
theorem path_nodup {l:List Nd} {n:Int} (h:tok l=true) (h0 : -1≤n) (h1:n<l.length):(path l n).Nodup:=by
 refine path_rec h (P:=fun _ p=>p.Nodup) (by simp) ?_ _ n h0 h1 nlr
 intro n p a b e ih
 have hk:=tok_at h (k:=n.toNat) (by omega)
 rw [List.nodup_cons]
 refine ⟨fun hx=>?_,ih⟩
 rw [e] at hx
 have:=path_mem h (by omega) (by omega) n hx
 omega
def pathOf (l:List Nd) (n:Int):List Int:=if tin l n=true then path l n else []
theorem pathOf_len (l:List Nd) (n:Int):(pathOf l n).length≤12:=by
 unfold pathOf
 split
 ·rename_i h
  have g:=tin_iff.1 h
  have:=path_len g.1 (by omega) g.2.2
  have:=(tok_iff.1 g.1).2.1
  omega
 ·simp
def canP (l:List Nd) (p:List Int) (size:Int):Bool:=p.all fun x=>decide (size≤(ndAt l x.toNat).pz.level)
def can (l:List Nd) (n size:Int):Bool:=tin l n&&(decide (0≤size)&&canP l (path l n) size)
theorem can_iff {l:List Nd} {n size:Int}:can l n size=true↔tin l n=true∧0≤size∧∀ x∈path l n,size≤(ndAt l x.toNat).pz.level:=by
 unfold can canP
 simp only [Bool.and_eq_true,decide_eq_true_eq,List.all_eq_true]
def Nd.less (x:Nd) (size:Int):Nd:=⟨x.up,⟨x.pz.rate,x.pz.burst,x.pz.level-size,x.pz.tm⟩⟩
def payP (l:List Nd) (size:Int):List Int→List Nd
 |[]=>l
 |x :: p=>payP (l.set x.toNat ((ndAt l x.toNat).less size)) size p
def paid (l:List Nd) (n size:Int):List Nd:=if tok l=true then (if can l n size=true then payP l size (path l n) else l) else []
theorem payP_len (size:Int):∀ (p:List Int) (l:List Nd),(payP l size p).length=l.length
 |[],_=>rfl
 |x :: p,l=>by rw [payP,payP_len size p];simp
theorem ndAt_set {l:List Nd} {k j:Nat} {x:Nd} (hk:k<l.length):ndAt (l.set k x) j=if k=j then x else ndAt l j:=by
 unfold ndAt
 rw [List.getElem?_set]
 by_cases h:k=j
 ·subst h;simp [hk]
 ·simp [h]
theorem payP_at (size:Int):∀ (p:List Int) (l:List Nd),p.Nodup→(∀ x∈p,0≤x∧x<l.length)→∀ k,k<l.length→ndAt (payP l size p) k=if (k:Int)∈p then (ndAt l k).less size else ndAt l k
 |[],_,_,_,k,_=>by simp [payP]
 |x :: p,l,hn,hb,k,hk=>by
  have hx:=hb x (List.mem_cons_self ..)
  rw [List.nodup_cons] at hn
  rw [payP,payP_at size p _ hn.2 (fun y hy=>by simpa using hb y (List.mem_cons_of_mem _ hy)) k (by simpa using hk),ndAt_set (by omega)]
  by_cases e:x.toNat=k
  ·have e2:(k:Int)=x:=by omega
   rw [e2,if_neg hn.1,if_pos e,if_pos (List.mem_cons_self ..),e]
  ·have e2:¬ (k:Int)=x:=by omega
   rw [if_neg e]
   by_cases h:(k:Int)∈p
   ·rw [if_pos h,if_pos (List.mem_cons_of_mem _ h)]
   ·rw [if_neg h,if_neg (by simp [e2,h])]
def Sr.ok (p:Sr):Bool:=inB 1 1000 p.target&&(inB 0 100000 p.old&&inB 0 1048576 p.prob)
theorem Sr.ok_iff {p:Sr}:p.ok=true↔(1≤p.target∧p.target≤1000)∧(0≤p.old∧p.old≤100000)∧(0≤p.prob∧p.prob≤1048576):=by
 unfold Sr.ok
 simp only [Bool.and_eq_true,inB_true]
def byOf (x:Int):Int:=if x<1048 then 2048 else if x<10485 then 512 else if x<104857 then 128 else if x<262144 then 32 else 1
theorem byOf_in (x:Int):1≤byOf x∧byOf x≤2048:=by
 unfold byOf
 split
 ·omega
 split
 ·omega
 split
 ·omega
 split<;>omega
def Sr.add (p:Sr) (d:Int):Int:=(d-p.target)*2+(d-p.old)*20
def Sr.raw (p:Sr) (d:Int):Int:=max 0 (min 1048576 (p.prob+Int.tdiv (p.add d) (byOf p.prob)))
def Sr.stir (p:Sr) (d:Int):Sr:=⟨p.target,d,if d=0∧p.old=0 then p.raw d-p.raw d/64 else p.raw d⟩
def Sr.stirred (p:Sr) (d:Int):Sr:=if p.ok=true then (if inB 0 100000 d=true then p.stir d else p) else ⟨0,0,0⟩
theorem tdiv_le (x b:Int) : -(x.natAbs:Int)≤Int.tdiv x b∧Int.tdiv x b≤x.natAbs:=by
 have h1:(Int.tdiv x b).natAbs=x.natAbs/b.natAbs:=Int.natAbs_tdiv x b
 have h2:x.natAbs/b.natAbs≤x.natAbs:=Nat.div_le_self _ _
 omega
theorem Sr.raw_in (p:Sr) (d:Int):0≤p.raw d∧p.raw d≤1048576:=by
 unfold Sr.raw
 omega
theorem Sr.stir_prob (p:Sr) (d:Int):0≤(p.stir d).prob∧(p.stir d).prob≤1048576:=by
 have h:=p.raw_in d
 unfold Sr.stir
 simp only
 split<;>omega
theorem Sr.stir_ok {p:Sr} {d:Int} (h:p.ok=true) (hd:inB 0 100000 d=true):(p.stir d).ok=true:=by
 have h1:=Sr.ok_iff.1 h
 rw [inB_true] at hd
 rw [Sr.ok_iff]
 exact ⟨h1.1,hd,p.stir_prob d⟩
theorem Sr.wraps {p:Sr} {d:Int} (h:p.ok=true) (hd:inB 0 100000 d=true):IntKind.i64.wrap (d-p.target)=d-p.target∧IntKind.i64.wrap ((d-p.target)*2)=(d-p.target)*2∧IntKind.i64.wrap (d-p.old)=d-p.old∧IntKind.i64.wrap ((d-p.old)*20)=(d-p.old)*20 ∧
 IntKind.i64.wrap ((d-p.target)*2+(d-p.old)*20)=p.add d∧IntKind.i64.wrap (Int.tdiv (p.add d) (byOf p.prob))=Int.tdiv (p.add d) (byOf p.prob)∧IntKind.i64.wrap (p.prob+Int.tdiv (p.add d) (byOf p.prob))=p.prob+Int.tdiv (p.add d) (byOf p.prob):=by
 have h1:=Sr.ok_iff.1 h
 rw [inB_true] at hd
 have h2:=tdiv_le (p.add d) (byOf p.prob)
 have h3:p.add d=(d-p.target)*2+(d-p.old)*20:=rfl
 generalize Int.tdiv (p.add d) (byOf p.prob)=q at h2 ⊢
 generalize p.add d=s at h2 h3 ⊢
 rw [IntKind.wrap_i64,IntKind.wrap_i64,IntKind.wrap_i64,IntKind.wrap_i64,IntKind.wrap_i64,IntKind.wrap_i64,IntKind.wrap_i64]
 omega
def Gt.head (g:Gt):Bool:=g.ln.ok&&(rtsOk g.routes&&(rusOk g.rules&&(tok g.tree&&(decide (1≤g.leaves.length)&&(decide (g.leaves.length≤8)&&(g.rows.ok&&(decide (g.rows.lists.length=g.leaves.length)&&(decide (g.steers.length=g.leaves.length)&&(g.fair.ok&&(decide (g.fair.flows.length=g.leaves.length)&&(inB 1 1000000 g.next&&inB 0 1048575 g.draw)))))))))))
def Gt.itemB (g:Gt) (i k:Nat):Bool:=decide ((itAt (izAt g.rows.lists i) k).id<g.next)&&decide (g.ln.takes (itAt (izAt g.rows.lists i) k).size=(fwAt g.fair.flows i).sizes[k]?.getD 0)
def Gt.leafB (g:Gt) (i:Nat):Bool:=decide (0≤g.leaves[i]?.getD 0)&&(decide (g.leaves[i]?.getD 0<(g.tree.length:Int))&&((decide (i=0)||decide (g.leaves[i-1]?.getD 0<g.leaves[i]?.getD 0))&&((srAt g.steers i).ok&&(decide ((fwAt g.fair.flows i).sizes.length=(izAt g.rows.lists i).length)&&(List.range (izAt g.rows.lists i).length).all (g.itemB i)))))
def Gt.ok (g:Gt):Bool:=g.head&&(List.range g.leaves.length).all g.leafB
theorem Gt.ok_iff {g:Gt}:g.ok=true↔g.head=true∧∀ i,i<g.leaves.length→g.leafB i=true:=by
 unfold Gt.ok
 simp only [Bool.and_eq_true,List.all_eq_true,List.mem_range]
end Go.Proofs.YtgebghkcikmfaaaGreatDoor
