import Derived.Test.YtmfabeghfdoibaaGreatQT4FsPlain
import Derived.Test.YtmfabeghfdoibaaGreatQT5RwPlain
namespace Go.Proofs.YtmfabeghfdoibaaGreat
open Go.RowKit
structure Span (b t:Nat) (w w':World):Prop where
 os:w'.os=w.os
 tape:w'.tape=w.tape
 output:w'.output=w.output
 size:w.heap.size≤w'.heap.size
 block:∀ k,k<w.heap.size→k<b∨t≤k→w'.heap[k]? = w.heap[k]?
theorem Span.trans {b t:Nat} {x y z:World} (h:Span b t x y) (g:Span b t y z):Span b t x z :=
 ⟨g.os.trans h.os,g.tape.trans h.tape,g.output.trans h.output,Nat.le_trans h.size g.size,fun k hk hb=>(g.block k (Nat.lt_of_lt_of_le hk h.size) hb).trans (h.block k hk hb)⟩
theorem Span.of_turn {H:Nat→Nat→Prop} {b t:Nat} {w w':World} (h:Turn H w w') (hb:∀ k o,H k o→b≤k∧k<t):Span b t w w' :=
 ⟨h.os,h.tape,h.output,Nat.le_of_eq h.size.symm,fun k _ hk=>h.block k fun o ho=>by have:=hb k o ho;omega⟩
theorem Span.of_below {b t:Nat} {w w':World} (h:Bel w w'):Span b t w w':=⟨h.os,h.tape,h.output,h.size,fun k hk _=>h.block k hk⟩
theorem Span.below {b t n:Nat} {w w':World} (h:Span b t w w') (hn:n≤b) (hs:n≤w.heap.size):Below n w w':=⟨h.os,h.tape,h.output,h.size,fun k hk=>h.block k (by omega) (.inl (by omega))⟩
structure Thing where
 P:World→Prop
 lo:Nat
 hi:Nat
 keep:∀ {W W':World},P W→W.heap.size≤W'.heap.size→(∀ k,lo≤k→k<hi→W'.heap[k]? = W.heap[k]?)→P W'
 lt:∀ {W:World},P W→hi≤W.heap.size
def AllT:List Thing→World→Prop
 |[],_=>True
 |t :: r,W=>t.P W∧AllT r W
def OffT (b t:Nat):List Thing→Prop
 |[]=>True
 |x :: r=>(x.hi≤b∨t≤x.lo)∧OffT b t r
theorem AllT.below:∀ {ts:List Thing} {W W':World},AllT ts W→Bel W W'→AllT ts W'
 |[],_,_,_,_=>trivial
 |t :: _,_,_,h,g=>⟨t.keep h.1 g.size (fun k _ hk=>g.block k (Nat.lt_of_lt_of_le hk (t.lt h.1))),AllT.below h.2 g⟩
theorem AllT.span:∀ {ts:List Thing} {W W':World} {b t:Nat},AllT ts W→Span b t W W'→OffT b t ts→AllT ts W'
 |[],_,_,_,_,_,_,_=>trivial
 |x :: _,_,_,_,_,h,g,o=>⟨x.keep h.1 g.size (fun k h1 h2=>g.block k (Nat.lt_of_lt_of_le h2 (x.lt h.1)) (by
  rcases o.1 with q|q
  ·left;omega
  ·right;omega)),AllT.span h.2 g o.2⟩
theorem AllT.app:∀ {ts us:List Thing} {W:World},AllT ts W→AllT us W→AllT (ts++us) W
 |[],_,_,_,h=>h
 |_ :: _,_,_,h,g=>⟨h.1,AllT.app h.2 g⟩
def Lies (w:World) (ts:List Thing) (W:World):Prop:=AllT ts W∧Bel w W
theorem Lies.below {w:World} {ts:List Thing} {W W':World} (h:Lies w ts W) (g:Bel W W'):Lies w ts W':=⟨h.1.below g,h.2.trans (g.mono h.2.size)⟩
theorem Lies.span {w:World} {ts:List Thing} {W W':World} {b t:Nat} (h:Lies w ts W) (g:Span b t W W') (o:OffT b t ts) (hb:w.heap.size≤b):Lies w ts W':=⟨h.1.span g o,h.2.trans (g.below hb h.2.size)⟩
theorem Lies.more {w:World} {ts us:List Thing} {W W':World} (h:Lies w ts W) (g:Bel W W') (u:AllT us W'):Lies w (ts++us) W':=⟨(h.below g).1.app u,(h.below g).2⟩
abbrev Thing.box (B:Nat) (cs:Array Value) (t:TypeId):Thing where
 P:=fun W=>Boxed W B cs t
 lo:=B
 hi:=B+1
 keep:=fun h _ g=>by unfold Boxed at *;rw [g B nlr (by omega)];exact h
 lt:=fun h=>h.under
abbrev Thing.own (P:World→Prop) (b t:Nat) (hk:∀ {W W':World},P W→W.heap.size≤W'.heap.size→(∀ k,b≤k→k<t→W'.heap[k]? = W.heap[k]?)→P W'):Thing where
 P:=fun W=>P W∧t≤W.heap.size
 lo:=b
 hi:=t
 keep:=fun h s g=>⟨hk h.1 s g,Nat.le_trans h.2 s⟩
 lt:=fun h=>h.2
structure Rt where
 net:Int
 bits:Int
 hop:Int
def Rt.val (r:Rt):Value:=.agg #[.int .i64 r.net,.int .i64 r.bits,.int .i64 r.hop]
def Rt.cells (r:Rt):List Value:=[.int .i64 r.net,.int .i64 r.bits,.int .i64 r.hop]
def rtAt (l:List Rt) (k:Nat):Rt:=l[k]?.getD ⟨0,0,0⟩
theorem rtAt_lt {l:List Rt} {k:Nat} (h:k<l.length):rtAt l k=l[k]:=by simp [rtAt,List.getElem?_eq_getElem h]
def RtsAt (w:World) (a:Option Addr) (l:List Rt):Prop :=
 ∀ k,k<l.length→∃ b off,a=some ⟨b,off,none⟩∧b<w.heap.size∧w.cell? ⟨b,off+k*3,none⟩=some (.int .i64 (rtAt l k).net)∧w.cell? ⟨b,off+k*3+1,none⟩=some (.int .i64 (rtAt l k).bits)∧w.cell? ⟨b,off+k*3+2,none⟩=some (.int .i64 (rtAt l k).hop)
theorem RtsAt.below {w w':World} {a:Option Addr} {l:List Rt} (h:RtsAt w a l) (g:Bel w w'):RtsAt w' a l:=by
 intro k hk
 obtain ⟨b,off,e,hb,c0,c1,c2⟩:=h k hk
 exact ⟨b,off,e,Nat.lt_of_lt_of_le hb g.size,by rw [g.cell (p:=⟨b,off+k*3,none⟩) hb];exact c0,by rw [g.cell (p:=⟨b,off+k*3+1,none⟩) hb];exact c1,by rw [g.cell (p:=⟨b,off+k*3+2,none⟩) hb];exact c2⟩
theorem RtsAt.alloc {w:World} {a:Option Addr} {l:List Rt} (h:RtsAt w a l) (o:Obj):RtsAt (w.alloc o) a l :=
 h.below ((Below.refl _ _).alloc nlr _)
theorem RtsAt.nil (w:World) (a:Option Addr):RtsAt w a []:=by intro k hk;simp at hk
theorem cells_at {w:World} {b off k:Nat} {l:List Rt} (h:RtsAt w (some ⟨b,off,none⟩) l) (hk:k<l.length):w.cell? ⟨b,off+k*3,none⟩=some (.int .i64 (rtAt l k).net)∧w.cell? ⟨b,off+k*3+1,none⟩=some (.int .i64 (rtAt l k).bits)∧w.cell? ⟨b,off+k*3+2,none⟩=some (.int .i64 (rtAt l k).hop):=by
 obtain ⟨b',off',e,_,c⟩:=h k hk
 cases e
 exact c
def netB (net bits:Int):Bool:=inB 0 32 bits&&(inB 0 4294967295 net&&decide (net%2 ^ (32-bits).toNat=0))
def Rt.ok (r:Rt):Bool:=netB r.net r.bits&&inB 0 99 r.hop
def Rt.lt (a b:Rt):Bool:=decide (a.net<b.net∨a.net=b.net∧a.bits<b.bits)
def good (l:List Rt) (i:Nat):Bool:=(rtAt l i).ok&&(decide (i=0)||(rtAt l (i-1)).lt (rtAt l i))
def goodTo (l:List Rt) (k:Nat):Bool:=(List.range k).all (good l)
theorem goodTo_succ (l:List Rt) (k:Nat):goodTo l (k+1)=(goodTo l k&&good l k):=by simp [goodTo,List.range_succ]
theorem goodTo_hit {l:List Rt} {k n:Nat} (h:k<n) (g:good l k=false):goodTo l n=false:=by
 unfold goodTo
 rw [List.all_eq_false]
 exact ⟨k,List.mem_range.2 h,by simp [g]⟩
def rtsOk (l:List Rt):Bool:=decide (l.length≤64)&&goodTo l l.length
theorem pow_le32 {s:Nat} (h:s≤32):(2:Int) ^ s≤4294967296:=by
 have:(2:Nat) ^ s≤2 ^ 32:=Nat.pow_le_pow_right (by decide) h
 have e:((2 ^ s:Nat):Int)=(2:Int) ^ s:=by simp
 omega
theorem pow_pos' (s:Nat):(0:Int)<(2:Int) ^ s:=by
 have:0<(2:Nat) ^ s:=Nat.two_pow_pos s
 have e:((2 ^ s:Nat):Int)=(2:Int) ^ s:=by simp
 omega
theorem bits_of {bits:Int} (h:inB 0 32 bits=true):∃ s:Nat,s≤32∧bits=32-(s:Int):=by
 rw [inB_true] at h
 exact ⟨(32-bits).toNat,by omega,by omega⟩
theorem pow_of {s:Nat} (h:s≤32):(2:Int) ^ (32-(32-(s:Int))).toNat=2 ^ s:=by
 rw [show (32-(32-(s:Int))).toNat=s by omega]
theorem xor_shift {n a:Int} {s:Nat} (n0:0≤n) (n1:n≤4294967295) (a0:0≤a) (a1:a≤4294967295):(bits .xor .i64 n a/2 ^ s=0)↔n/2 ^ s=a/2 ^ s:=by
 obtain ⟨x,rfl⟩:=Int.eq_ofNat_of_zero_le n0
 obtain ⟨y,rfl⟩:=Int.eq_ofNat_of_zero_le a0
 have hx:x<2 ^ 32:=by omega
 have hy:y<2 ^ 32:=by omega
 have hz:x ^^^ y<2 ^ 32:=Nat.xor_lt_two_pow hx hy
 have key:bits .xor .i64 (x:Int) (y:Int)=((x ^^^ y:Nat):Int):=by
  show IntKind.i64.wrap ((BitVec.ofInt 64 (x:Int) ^^^ BitVec.ofInt 64 (y:Int)).toNat:Nat)=_
  rw [BitVec.toNat_xor,BitVec.toNat_ofInt,BitVec.toNat_ofInt,IntKind.wrap_i64]
  rw [show (((x:Int)%((2 ^ 64:Nat):Int)).toNat)=x by omega,show (((y:Int)%((2 ^ 64:Nat):Int)).toNat)=y by omega]
  omega
 rw [key]
 have e:((2 ^ s:Nat):Int)=(2:Int) ^ s:=by simp
 rw [← e,← Int.natCast_ediv,← Int.natCast_ediv,← Int.natCast_ediv,← Nat.shiftRight_eq_div_pow,← Nat.shiftRight_eq_div_pow,← Nat.shiftRight_eq_div_pow,Nat.shiftRight_xor_distrib]
 rw [Int.natCast_inj,show (0:Int)=((0:Nat):Int) from rfl,Int.natCast_inj]
 generalize x >>> s=p
 generalize y >>> s=q
 constructor
 ·intro h
  have h2:p ^^^ q ^^^ q=q:=by rw [h,Nat.zero_xor]
  rwa [Nat.xor_assoc,Nat.xor_self,Nat.xor_zero] at h2
 ·intro h;rw [h,Nat.xor_self]
theorem and_mask {n:Int} {s:Nat} (hs:s≤32) (n0:0≤n) (n1:n≤4294967295):bits .and .i64 n (2 ^ s-1)=n%2 ^ s:=by
 obtain ⟨x,rfl⟩:=Int.eq_ofNat_of_zero_le n0
 have hx:x<2 ^ 32:=by omega
 have e:((2 ^ s:Nat):Int)=(2:Int) ^ s:=by simp
 have p1:=pow_le32 hs
 have p0:=pow_pos' s
 show IntKind.i64.wrap ((BitVec.ofInt 64 (x:Int) &&& BitVec.ofInt 64 ((2:Int) ^ s-1)).toNat:Nat)=_
 rw [BitVec.toNat_and,BitVec.toNat_ofInt,BitVec.toNat_ofInt,IntKind.wrap_i64]
 rw [show (((x:Int)%((2 ^ 64:Nat):Int)).toNat)=x by omega,show ((((2:Int) ^ s-1)%((2 ^ 64:Nat):Int)).toNat)=2 ^ s-1 by omega]
 rw [Nat.and_two_pow_sub_one_eq_mod,← e,← Int.natCast_emod]
 have:x%2 ^ s≤x:=Nat.mod_le _ _
 generalize x%2 ^ s=m at this
 omega
theorem RtsAt.empty {w:World} {l:List Rt} (h:RtsAt w Option.none l):l=[]:=by
 cases l with
 |nil=>rfl
 |cons z zs=>obtain ⟨b,off,e,_⟩:=h 0 (by simp);cases e
theorem RtsAt.cells {w:World} {b off k:Nat} {l:List Rt} (h:RtsAt w (some ⟨b,off,Option.none⟩) l) (hk:k<l.length):w.cell? ⟨b,off+k*3,Option.none⟩=some (.int .i64 (rtAt l k).net)∧w.cell? ⟨b,off+k*3+1,Option.none⟩=some (.int .i64 (rtAt l k).bits)∧w.cell? ⟨b,off+k*3+2,Option.none⟩=some (.int .i64 (rtAt l k).hop):=by
 obtain ⟨b',off',e,_,c⟩:=h k hk
 cases e
 exact c
def rtcells (l:List Rt):List Value:=l.flatMap Rt.cells
theorem rtcells_cons (r:Rt) (l:List Rt):rtcells (r :: l) = .int .i64 r.net :: .int .i64 r.bits :: .int .i64 r.hop :: rtcells l:=rfl
theorem rtcells_append (a b:List Rt):rtcells (a++b)=rtcells a++rtcells b:=by simp [rtcells]
theorem rtcells_length (l:List Rt):(rtcells l).length=l.length*3:=by
 induction l with
 |nil=>rfl
 |cons r l ih=>rw [rtcells_cons];simp [ih];omega
theorem rtcells_get (l:List Rt) (k:Nat) (hk:k<l.length):(rtcells l)[k*3]? = some (.int .i64 (rtAt l k).net)∧(rtcells l)[k*3+1]? = some (.int .i64 (rtAt l k).bits)∧(rtcells l)[k*3+2]? = some (.int .i64 (rtAt l k).hop):=by
 induction l generalizing k with
 |nil=>simp at hk
 |cons r l ih =>
  cases k with
  |zero=>simp [rtcells_cons,rtAt]
  |succ k =>
   have:=ih k (by simpa using hk)
   rw [show (k+1)*3=k*3+3 by omega]
   simpa [rtcells_cons,rtAt] using this
theorem rtcells_one (l:List Rt):∀ u∈rtcells l,u.oneCell'=true:=by
 intro u hu
 induction l with
 |nil=>simp [rtcells] at hu
 |cons r l ih =>
  rw [rtcells_cons] at hu
  simp only [List.mem_cons] at hu
  rcases hu with rfl|rfl|rfl|hu
  ·rfl
  ·rfl
  ·rfl
  ·exact ih hu
theorem rtcells_set (l:List Rt) (k:Nat) (r:Rt):(((rtcells l).set (k*3) (.int .i64 r.net)).set (k*3+1) (.int .i64 r.bits)).set (k*3+2) (.int .i64 r.hop)=rtcells (l.set k r):=by
 induction l generalizing k with
 |nil=>simp [rtcells]
 |cons x l ih =>
  cases k with
  |zero=>simp [rtcells_cons]
  |succ k =>
   rw [show (k+1)*3=k*3+3 by omega,List.set_cons_succ,rtcells_cons,rtcells_cons,← ih k]
   rfl
def RtRow (base:Nat) (w:World) (v:Value) (l:List Rt):Prop:=w.ownsRow base 148 3 v l.length (rtcells l)
theorem RtRow.carry {base:Nat} {w w':World} {v:Value} {l:List Rt} (h:RtRow base w v l) (g:∀ k,v.ownBlock=some k→k<w.heap.size→w'.heap[k]? = w.heap[k]?):RtRow base w' v l:=by
 refine ⟨h.1,h.2.imp id ?_⟩
 rintro ⟨g0,cap,cur,h1,h2,h3,h4⟩
 exact ⟨g0,cap,cur,h1,h2,by rw [g g0 (by rw [h1];rfl) (Array.getElem?_eq_some_iff.1 h3).1];exact h3,h4⟩
theorem RtRow.shape {base:Nat} {w:World} {v:Value} {l:List Rt} (h:RtRow base w v l):∃ a cap,v = .slice a l.length cap:=by
 rcases h.2 with ⟨rfl,hn⟩|⟨g,cap,cur,rfl,_⟩
 ·rw [hn];exact ⟨none,0,rfl⟩
 ·exact ⟨_,_,rfl⟩
theorem RtRow.cap {base:Nat} {w:World} {a:Option Addr} {c:Nat} {l:List Rt} (h:RtRow base w (.slice a l.length c) l):l.length≤c:=by
 rcases h.2 with ⟨e,hn⟩|⟨g',c',cur,e,_,_,h4,_⟩
 ·omega
 ·cases e;exact h4
theorem RtRow.nilCap {base:Nat} {w:World} {a:Option Addr} {c:Nat} {l:List Rt} (h:RtRow base w (.slice a l.length c) l):a=none→c=0:=by
 intro ha
 subst ha
 rcases h.2 with ⟨e,hn⟩|⟨g',c',cur,e,_⟩
 ·simpa using (Value.slice.inj e).2.2
 ·cases e
theorem RtRow.lt {base:Nat} {w:World} {v:Value} {l:List Rt} (h:RtRow base w v l):∀ k,v.ownBlock=some k→base≤k∧k<w.heap.size:=World.ownsRow.lt h
theorem RtRow.mono {base base':Nat} {w:World} {v:Value} {l:List Rt} (h:RtRow base w v l) (hb:base'≤base):RtRow base' w v l:=⟨h.1,h.2.imp id fun ⟨g,cap,cur,h1,h2,h3⟩=>⟨g,cap,cur,h1,Nat.le_trans hb h2,h3⟩⟩
theorem RtRow.at {base:Nat} {w:World} {a:Option Addr} {cap:Nat} {l:List Rt} (h:RtRow base w (.slice a l.length cap) l):RtsAt w a l:=by
 intro k hk
 rcases h.2 with ⟨_,hn⟩|⟨g,cap',cur,e,h2,h3,h4⟩
 ·omega
 ·obtain ⟨rfl,_,rfl⟩:a=some ⟨g,0,none⟩∧True∧cap=cap':=by simpa using e
  have hc:=World.ownsRow.cellAt (show w.ownsRow base 148 3 (.slice (some ⟨g,0,none⟩) l.length cap) l.length _ from h)
  obtain ⟨e0,e1,e2⟩:=rtcells_get l k hk
  exact ⟨g,0,rfl,(Array.getElem?_eq_some_iff.1 h3).1,by rw [Nat.zero_add,hc _ (by omega),e0],by rw [Nat.zero_add,hc _ (by omega),e1],by rw [Nat.zero_add,hc _ (by omega),e2]⟩
theorem RtRow.put {base:Nat} {w:World} {g cap n:Nat} {l:List Rt} (h:w.ownsRow base 148 3 (.slice (some ⟨g,0,none⟩) n cap) n (rtcells l)) (k:Nat) (r:Rt) :
 (((w.setCell ⟨g,k*3,none⟩ (.int .i64 r.net)).setCell ⟨g,k*3+1,none⟩ (.int .i64 r.bits)).setCell ⟨g,k*3+2,none⟩ (.int .i64 r.hop)).ownsRow base 148 3 (.slice (some ⟨g,0,none⟩) n cap) n (rtcells (l.set k r)):=by
 have h1:=(h.stored (k*3) (.int .i64 r.net)).1
 have h2:=(h1.stored (k*3+1) (.int .i64 r.bits)).1
 have h3:=(h2.stored (k*3+2) (.int .i64 r.hop)).1
 rw [rtcells_set] at h3
 exact h3
theorem rtInfo:(Tryz.prog.info? 148).map (fun i=>(i.zero,i.size,i.bytes))=some (some (.agg #[.int .i64 0,.int .i64 0,.int .i64 0]),3,24):=by kernel_rfl
theorem rtMade (n:Nat):(madeCells #[Value.int .i64 0,.int .i64 0,.int .i64 0] (n*3)).toList=rtcells (List.replicate n ⟨0,0,0⟩):=by
 apply List.ext_getElem?
 intro i
 by_cases hi:i<n*3
 ·obtain ⟨k,j,rfl,hj⟩:∃ k j,i=k*3+j∧j<3:=⟨i/3,i%3,by omega,Nat.mod_lt _ (by omega)⟩
  have hk:k<n:=by omega
  obtain ⟨e0,e1,e2⟩:=rtcells_get (List.replicate n ⟨0,0,0⟩) k (by simpa using hk)
  have hz:rtAt (List.replicate n ⟨0,0,0⟩) k=⟨0,0,0⟩:=by simp [rtAt,hk]
  rw [hz] at e0 e1 e2
  have hm:(k*3+j)%3=j:=by omega
  have hL:(madeCells #[Value.int .i64 0,.int .i64 0,.int .i64 0] (n*3)).toList[k*3+j]? = some (.int .i64 0):=by
   simp [madeCells,hi,hm]
   match j,hj with
   |0,_=>rfl
   |1,_=>rfl
   |2,_=>rfl
  rw [hL]
  match j,hj with
  |0,_=>exact e0.symm
  |1,_=>exact e1.symm
  |2,_=>exact e2.symm
 ·rw [List.getElem?_eq_none (by simp [madeCells];omega),List.getElem?_eq_none (by rw [rtcells_length];simp;omega)]
theorem rtTakeSet (l:List Rt) (n k:Nat) (hn:l.length=n) (hk:k<n):(l.take k++List.replicate (n-k) (⟨0,0,0⟩:Rt)).set k (rtAt l k)=l.take (k+1)++List.replicate (n-(k+1)) ⟨0,0,0⟩:=by
 subst hn
 rw [List.set_append_right _ _ (by simp;omega),List.take_succ_eq_append_getElem hk,rtAt_lt hk]
 simp only [List.length_take,Nat.min_eq_left (Nat.le_of_lt hk),Nat.sub_self]
 obtain ⟨m,hm⟩:∃ m,l.length-k=m+1:=⟨l.length-k-1,by omega⟩
 rw [hm,show l.length-(k+1)=m by omega,List.replicate_succ,List.set_cons_zero]
 simp only [List.append_assoc,List.cons_append,List.nil_append]
def RtIn (b t:Nat) (w:World) (v:Value) (l:List Rt):Prop:=SlIn b t w v l.length (rtcells l)
theorem rtcells_ne {l:List Rt} (h:0<l.length):rtcells l≠[]:=by
 intro e
 have:=rtcells_length l
 rw [e] at this
 simp at this
 omega
theorem RtsAt.of_in {b t:Nat} {w:World} {a:Option Addr} {cap:Nat} {l:List Rt} (h:RtIn b t w (.slice a l.length cap) l):RtsAt w a l:=by
 intro k hk
 obtain ⟨g,off,rfl,h1,h2,h3⟩:=SlIn.some h (rtcells_ne (by omega))
 have hl:=rtcells_length l
 obtain ⟨e0,e1,e2⟩:=rtcells_get l k hk
 refine ⟨g,off,rfl,by omega,?_,?_,?_⟩
 ·have:=(SlIn.cells h (k*3) (by omega)).1
  rw [e0] at this
  exact this
 ·have:=(SlIn.cells h (k*3+1) (by omega)).1
  rw [e1] at this
  exact this
 ·have:=(SlIn.cells h (k*3+2) (by omega)).1
  rw [e2] at this
  exact this
theorem RtIn.of_row {b t:Nat} {w:World} {v:Value} {l:List Rt} (h:RtRow b w v l) (ht:∀ k,v.ownBlock=some k→k<t) (hs:t≤w.heap.size):RtIn b t w v l:=SlIn.of_row h ht hs
def RtsV (w:World) (v:Value) (l:List Rt):Prop:=∃ a c,v = .slice a l.length c∧RtsAt w a l∧l.length≤c∧(a=none→c=0)
def RtsW (b t:Nat) (w:World) (v:Value) (l:List Rt):Prop:=RtIn b t w v l∧∃ a c,v = .slice a l.length c∧l.length≤c∧(a=none→c=0)
section
variable {b t:Nat} {w w':World} {v:Value} {l:List Rt}
theorem RtsW.at (h:RtsW b t w v l):RtsV w v l:=by
 obtain ⟨h1,a,c,rfl,h2⟩:=h
 exact ⟨a,c,rfl,RtsAt.of_in h1,h2⟩
theorem RtsV.below (h:RtsV w v l) (g:Bel w w'):RtsV w' v l:=by
 obtain ⟨a,c,e,h1,h2⟩:=h
 exact ⟨a,c,e,h1.below g,h2⟩
theorem RtsW.keep (h:RtsW b t w v l) (hs:w.heap.size≤w'.heap.size) (hk:∀ k,b≤k→k<t→w'.heap[k]? = w.heap[k]?):RtsW b t w' v l:=⟨SlIn.keep h.1 hs hk,h.2⟩
theorem RtsW.below (h:RtsW b t w v l) (g:Bel w w'):RtsW b t w' v l:=⟨SlIn.below h.1 g,h.2⟩
theorem RtsW.cells (h:RtsW b t w v l):∃ p q,v = .slice p l.length q:=by
 obtain ⟨_,a,c,e,_⟩:=h
 exact ⟨a,c,e⟩
theorem RtsW.of_row (h:RtRow b w v l):RtsW b w.heap.size w v l:=by
 refine ⟨RtIn.of_row h (fun k hk=>(h.lt k hk).2) nlr,?_⟩
 obtain ⟨a,c,e⟩:=h.shape
 subst e
 exact ⟨a,c,rfl,h.cap,h.nilCap⟩
end
structure Ru where
 id:Int
 prio:Int
 snet:Int
 sbits:Int
 dnet:Int
 dbits:Int
 proto:Int
 low:Int
 high:Int
 cls:Int
def Ru.val (r:Ru):Value:=.agg #[.int .i64 r.id,.int .i64 r.prio,.int .i64 r.snet,.int .i64 r.sbits,.int .i64 r.dnet,.int .i64 r.dbits,.int .i64 r.proto,.int .i64 r.low,.int .i64 r.high,.int .i64 r.cls]
def Ru.cells (r:Ru):List Value:=[.int .i64 r.id,.int .i64 r.prio,.int .i64 r.snet,.int .i64 r.sbits,.int .i64 r.dnet,.int .i64 r.dbits,.int .i64 r.proto,.int .i64 r.low,.int .i64 r.high,.int .i64 r.cls]
def ruAt (l:List Ru) (k:Nat):Ru:=l[k]?.getD ⟨0,0,0,0,0,0,0,0,0,0⟩
theorem ruAt_lt {l:List Ru} {k:Nat} (h:k<l.length):ruAt l k=l[k]:=by simp [ruAt,List.getElem?_eq_getElem h]
def RusAt (w:World) (a:Option Addr) (l:List Ru):Prop :=
 ∀ k,k<l.length→∃ b off,a=some ⟨b,off,none⟩∧b<w.heap.size∧w.cell? ⟨b,off+k*10,none⟩=some (.int .i64 (ruAt l k).id)∧w.cell? ⟨b,off+k*10+1,none⟩=some (.int .i64 (ruAt l k).prio)∧w.cell? ⟨b,off+k*10+2,none⟩=some (.int .i64 (ruAt l k).snet)∧w.cell? ⟨b,off+k*10+3,none⟩=some (.int .i64 (ruAt l k).sbits)∧w.cell? ⟨b,off+k*10+4,none⟩=some (.int .i64 (ruAt l k).dnet)∧w.cell? ⟨b,off+k*10+5,none⟩=some (.int .i64 (ruAt l k).dbits)∧w.cell? ⟨b,off+k*10+6,none⟩=some (.int .i64 (ruAt l k).proto)∧w.cell? ⟨b,off+k*10+7,none⟩=some (.int .i64 (ruAt l k).low)∧w.cell? ⟨b,off+k*10+8,none⟩=some (.int .i64 (ruAt l k).high)∧w.cell? ⟨b,off+k*10+9,none⟩=some (.int .i64 (ruAt l k).cls)
theorem RusAt.below {w w':World} {a:Option Addr} {l:List Ru} (h:RusAt w a l) (g:Bel w w'):RusAt w' a l:=by
 intro k hk
 obtain ⟨b,off,e,hb,c0,c1,c2,c3,c4,c5,c6,c7,c8,c9⟩:=h k hk
 exact ⟨b,off,e,Nat.lt_of_lt_of_le hb g.size,by rw [g.cell (p:=⟨b,off+k*10,none⟩) hb];exact c0,by rw [g.cell (p:=⟨b,off+k*10+1,none⟩) hb];exact c1,by rw [g.cell (p:=⟨b,off+k*10+2,none⟩) hb];exact c2,by rw [g.cell (p:=⟨b,off+k*10+3,none⟩) hb];exact c3,by rw [g.cell (p:=⟨b,off+k*10+4,none⟩) hb];exact c4,by rw [g.cell (p:=⟨b,off+k*10+5,none⟩) hb];exact c5,by rw [g.cell (p:=⟨b,off+k*10+6,none⟩) hb];exact c6,by rw [g.cell (p:=⟨b,off+k*10+7,none⟩) hb];exact c7,by rw [g.cell (p:=⟨b,off+k*10+8,none⟩) hb];exact c8,by rw [g.cell (p:=⟨b,off+k*10+9,none⟩) hb];exact c9⟩
theorem RusAt.alloc {w:World} {a:Option Addr} {l:List Ru} (h:RusAt w a l) (o:Obj):RusAt (w.alloc o) a l :=
 h.below ((Below.refl _ _).alloc nlr _)
theorem RusAt.drew {w:World} {a:Option Addr} {l:List Ru} (h:RusAt w a l):RusAt w.drew a l:=h.below (Below.refl _ _).drew
theorem RusAt.nil (w:World) (a:Option Addr):RusAt w a []:=by intro k hk;simp at hk
theorem RusAt.empty {w:World} {l:List Ru} (h:RusAt w none l):l=[]:=by
 cases l with
 |nil=>rfl
 |cons z zs=>obtain ⟨b,off,e,_⟩:=h 0 (by simp);cases e
theorem RusAt.cells {w:World} {b off k:Nat} {l:List Ru} (h:RusAt w (some ⟨b,off,none⟩) l) (hk:k<l.length):w.cell? ⟨b,off+k*10,none⟩=some (.int .i64 (ruAt l k).id)∧w.cell? ⟨b,off+k*10+1,none⟩=some (.int .i64 (ruAt l k).prio)∧w.cell? ⟨b,off+k*10+2,none⟩=some (.int .i64 (ruAt l k).snet)∧w.cell? ⟨b,off+k*10+3,none⟩=some (.int .i64 (ruAt l k).sbits)∧w.cell? ⟨b,off+k*10+4,none⟩=some (.int .i64 (ruAt l k).dnet)∧w.cell? ⟨b,off+k*10+5,none⟩=some (.int .i64 (ruAt l k).dbits)∧w.cell? ⟨b,off+k*10+6,none⟩=some (.int .i64 (ruAt l k).proto)∧w.cell? ⟨b,off+k*10+7,none⟩=some (.int .i64 (ruAt l k).low)∧w.cell? ⟨b,off+k*10+8,none⟩=some (.int .i64 (ruAt l k).high)∧w.cell? ⟨b,off+k*10+9,none⟩=some (.int .i64 (ruAt l k).cls):=by
 obtain ⟨b',off',e,_,c⟩:=h k hk
 cases e
 exact c
def rucells (l:List Ru):List Value:=l.flatMap Ru.cells
theorem rucells_cons (r:Ru) (l:List Ru):rucells (r :: l) = .int .i64 r.id :: .int .i64 r.prio :: .int .i64 r.snet :: .int .i64 r.sbits :: .int .i64 r.dnet :: .int .i64 r.dbits :: .int .i64 r.proto :: .int .i64 r.low :: .int .i64 r.high :: .int .i64 r.cls :: rucells l:=rfl
theorem rucells_append (a b:List Ru):rucells (a++b)=rucells a++rucells b:=by simp [rucells]
theorem rucells_length (l:List Ru):(rucells l).length=l.length*10:=by
 induction l with
 |nil=>rfl
 |cons r l ih=>rw [rucells_cons];simp [ih];omega
theorem rucells_get (l:List Ru) (k:Nat) (hk:k<l.length):(rucells l)[k*10]? = some (.int .i64 (ruAt l k).id)∧(rucells l)[k*10+1]? = some (.int .i64 (ruAt l k).prio)∧(rucells l)[k*10+2]? = some (.int .i64 (ruAt l k).snet)∧(rucells l)[k*10+3]? = some (.int .i64 (ruAt l k).sbits)∧(rucells l)[k*10+4]? = some (.int .i64 (ruAt l k).dnet)∧(rucells l)[k*10+5]? = some (.int .i64 (ruAt l k).dbits)∧(rucells l)[k*10+6]? = some (.int .i64 (ruAt l k).proto)∧(rucells l)[k*10+7]? = some (.int .i64 (ruAt l k).low)∧(rucells l)[k*10+8]? = some (.int .i64 (ruAt l k).high)∧(rucells l)[k*10+9]? = some (.int .i64 (ruAt l k).cls):=by
 induction l generalizing k with
 |nil=>simp at hk
 |cons r l ih =>
  cases k with
  |zero=>simp [rucells_cons,ruAt]
  |succ k =>
   have:=ih k (by simpa using hk)
   rw [show (k+1)*10=k*10+10 by omega]
   simpa [rucells_cons,ruAt] using this
theorem rucells_one (l:List Ru):∀ u∈rucells l,u.oneCell'=true:=by
 intro u hu
 induction l with
 |nil=>simp [rucells] at hu
 |cons r l ih =>
  rw [rucells_cons] at hu
  simp only [List.mem_cons] at hu
  rcases hu with rfl|rfl|rfl|rfl|rfl|rfl|rfl|rfl|rfl|rfl|hu
  ·rfl
  ·rfl
  ·rfl
  ·rfl
  ·rfl
  ·rfl
  ·rfl
  ·rfl
  ·rfl
  ·rfl
  ·exact ih hu
theorem rucells_set (l:List Ru) (k:Nat) (r:Ru):((((((((((rucells l).set (k*10) (.int .i64 r.id)).set (k*10+1) (.int .i64 r.prio)).set (k*10+2) (.int .i64 r.snet)).set (k*10+3) (.int .i64 r.sbits)).set (k*10+4) (.int .i64 r.dnet)).set (k*10+5) (.int .i64 r.dbits)).set (k*10+6) (.int .i64 r.proto)).set (k*10+7) (.int .i64 r.low)).set (k*10+8) (.int .i64 r.high)).set (k*10+9) (.int .i64 r.cls)=rucells (l.set k r):=by
 induction l generalizing k with
 |nil=>simp [rucells]
 |cons x l ih =>
  cases k with
  |zero=>simp [rucells_cons]
  |succ k =>
   rw [show (k+1)*10=k*10+10 by omega,List.set_cons_succ,rucells_cons,rucells_cons,← ih k]
   rfl
def RuRow (base:Nat) (w:World) (v:Value) (l:List Ru):Prop:=w.ownsRow base 152 10 v l.length (rucells l)
theorem RuRow.carry {base:Nat} {w w':World} {v:Value} {l:List Ru} (h:RuRow base w v l) (g:∀ k,v.ownBlock=some k→k<w.heap.size→w'.heap[k]? = w.heap[k]?):RuRow base w' v l:=by
 refine ⟨h.1,h.2.imp id ?_⟩
 rintro ⟨g0,cap,cur,h1,h2,h3,h4⟩
 exact ⟨g0,cap,cur,h1,h2,by rw [g g0 (by rw [h1];rfl) (Array.getElem?_eq_some_iff.1 h3).1];exact h3,h4⟩
theorem RuRow.shape {base:Nat} {w:World} {v:Value} {l:List Ru} (h:RuRow base w v l):∃ a cap,v = .slice a l.length cap:=by
 rcases h.2 with ⟨rfl,hn⟩|⟨g,cap,cur,rfl,_⟩
 ·rw [hn];exact ⟨none,0,rfl⟩
 ·exact ⟨_,_,rfl⟩
theorem RuRow.cap {base:Nat} {w:World} {a:Option Addr} {c:Nat} {l:List Ru} (h:RuRow base w (.slice a l.length c) l):l.length≤c:=by
 rcases h.2 with ⟨e,hn⟩|⟨g',c',cur,e,_,_,h4,_⟩
 ·omega
 ·cases e;exact h4
theorem RuRow.nilCap {base:Nat} {w:World} {a:Option Addr} {c:Nat} {l:List Ru} (h:RuRow base w (.slice a l.length c) l):a=none→c=0:=by
 intro ha
 subst ha
 rcases h.2 with ⟨e,hn⟩|⟨g',c',cur,e,_⟩
 ·simpa using (Value.slice.inj e).2.2
 ·cases e
theorem RuRow.lt {base:Nat} {w:World} {v:Value} {l:List Ru} (h:RuRow base w v l):∀ k,v.ownBlock=some k→base≤k∧k<w.heap.size:=World.ownsRow.lt h
theorem RuRow.mono {base base':Nat} {w:World} {v:Value} {l:List Ru} (h:RuRow base w v l) (hb:base'≤base):RuRow base' w v l:=⟨h.1,h.2.imp id fun ⟨g,cap,cur,h1,h2,h3⟩=>⟨g,cap,cur,h1,Nat.le_trans hb h2,h3⟩⟩
theorem RuRow.at {base:Nat} {w:World} {a:Option Addr} {cap:Nat} {l:List Ru} (h:RuRow base w (.slice a l.length cap) l):RusAt w a l:=by
 intro k hk
 rcases h.2 with ⟨_,hn⟩|⟨g,cap',cur,e,h2,h3,h4⟩
 ·omega
 ·obtain ⟨rfl,_,rfl⟩:a=some ⟨g,0,none⟩∧True∧cap=cap':=by simpa using e
  have hc:=World.ownsRow.cellAt (show w.ownsRow base 152 10 (.slice (some ⟨g,0,none⟩) l.length cap) l.length _ from h)
  obtain ⟨e0,e1,e2,e3,e4,e5,e6,e7,e8,e9⟩:=rucells_get l k hk
  exact ⟨g,0,rfl,(Array.getElem?_eq_some_iff.1 h3).1,by rw [Nat.zero_add,hc _ (by omega),e0],by rw [Nat.zero_add,hc _ (by omega),e1],by rw [Nat.zero_add,hc _ (by omega),e2],by rw [Nat.zero_add,hc _ (by omega),e3],by rw [Nat.zero_add,hc _ (by omega),e4],by rw [Nat.zero_add,hc _ (by omega),e5],by rw [Nat.zero_add,hc _ (by omega),e6],by rw [Nat.zero_add,hc _ (by omega),e7],by rw [Nat.zero_add,hc _ (by omega),e8],by rw [Nat.zero_add,hc _ (by omega),e9]⟩
theorem RuRow.put {base:Nat} {w:World} {g cap n:Nat} {l:List Ru} (h:w.ownsRow base 152 10 (.slice (some ⟨g,0,none⟩) n cap) n (rucells l)) (k:Nat) (r:Ru) :
 ((((((((((w.setCell ⟨g,k*10,none⟩ (.int .i64 r.id)).setCell ⟨g,k*10+1,none⟩ (.int .i64 r.prio)).setCell ⟨g,k*10+2,none⟩ (.int .i64 r.snet)).setCell ⟨g,k*10+3,none⟩ (.int .i64 r.sbits)).setCell ⟨g,k*10+4,none⟩ (.int .i64 r.dnet)).setCell ⟨g,k*10+5,none⟩ (.int .i64 r.dbits)).setCell ⟨g,k*10+6,none⟩ (.int .i64 r.proto)).setCell ⟨g,k*10+7,none⟩ (.int .i64 r.low)).setCell ⟨g,k*10+8,none⟩ (.int .i64 r.high)).setCell ⟨g,k*10+9,none⟩ (.int .i64 r.cls)).ownsRow base 152 10 (.slice (some ⟨g,0,none⟩) n cap) n (rucells (l.set k r)):=by
 have h1:=(h.stored (k*10) (.int .i64 r.id)).1
 have h2:=(h1.stored (k*10+1) (.int .i64 r.prio)).1
 have h3:=(h2.stored (k*10+2) (.int .i64 r.snet)).1
 have h4:=(h3.stored (k*10+3) (.int .i64 r.sbits)).1
 have h5:=(h4.stored (k*10+4) (.int .i64 r.dnet)).1
 have h6:=(h5.stored (k*10+5) (.int .i64 r.dbits)).1
 have h7:=(h6.stored (k*10+6) (.int .i64 r.proto)).1
 have h8:=(h7.stored (k*10+7) (.int .i64 r.low)).1
 have h9:=(h8.stored (k*10+8) (.int .i64 r.high)).1
 have h10:=(h9.stored (k*10+9) (.int .i64 r.cls)).1
 rw [rucells_set] at h10
 exact h10
theorem ruInfo:(Tryz.prog.info? 152).map (fun i=>(i.zero,i.size,i.bytes))=some (some (.agg #[.int .i64 0,.int .i64 0,.int .i64 0,.int .i64 0,.int .i64 0,.int .i64 0,.int .i64 0,.int .i64 0,.int .i64 0,.int .i64 0]),10,80):=by kernel_rfl
theorem ruMade (n:Nat):(madeCells #[Value.int .i64 0,.int .i64 0,.int .i64 0,.int .i64 0,.int .i64 0,.int .i64 0,.int .i64 0,.int .i64 0,.int .i64 0,.int .i64 0] (n*10)).toList=rucells (List.replicate n ⟨0,0,0,0,0,0,0,0,0,0⟩):=by
 apply List.ext_getElem?
 intro i
 by_cases hi:i<n*10
 ·obtain ⟨k,j,rfl,hj⟩:∃ k j,i=k*10+j∧j<10:=⟨i/10,i%10,by omega,Nat.mod_lt _ (by omega)⟩
  have hk:k<n:=by omega
  obtain ⟨e0,e1,e2,e3,e4,e5,e6,e7,e8,e9⟩:=rucells_get (List.replicate n ⟨0,0,0,0,0,0,0,0,0,0⟩) k (by simpa using hk)
  have hz:ruAt (List.replicate n ⟨0,0,0,0,0,0,0,0,0,0⟩) k=⟨0,0,0,0,0,0,0,0,0,0⟩:=by simp [ruAt,hk]
  rw [hz] at e0 e1 e2 e3 e4 e5 e6 e7 e8 e9
  have hm:(k*10+j)%10=j:=by omega
  have hL:(madeCells #[Value.int .i64 0,.int .i64 0,.int .i64 0,.int .i64 0,.int .i64 0,.int .i64 0,.int .i64 0,.int .i64 0,.int .i64 0,.int .i64 0] (n*10)).toList[k*10+j]? = some (.int .i64 0):=by
   simp [madeCells,hi,hm]
   match j,hj with
   |0,_=>rfl
   |1,_=>rfl
   |2,_=>rfl
   |3,_=>rfl
   |4,_=>rfl
   |5,_=>rfl
   |6,_=>rfl
   |7,_=>rfl
   |8,_=>rfl
   |9,_=>rfl
  rw [hL]
  match j,hj with
  |0,_=>exact e0.symm
  |1,_=>exact e1.symm
  |2,_=>exact e2.symm
  |3,_=>exact e3.symm
  |4,_=>exact e4.symm
  |5,_=>exact e5.symm
  |6,_=>exact e6.symm
  |7,_=>exact e7.symm
  |8,_=>exact e8.symm
  |9,_=>exact e9.symm
 ·rw [List.getElem?_eq_none (by simp [madeCells];omega),List.getElem?_eq_none (by rw [rucells_length];simp;omega)]
theorem ruTakeSet (l:List Ru) (n k:Nat) (hn:l.length=n) (hk:k<n):(l.take k++List.replicate (n-k) (⟨0,0,0,0,0,0,0,0,0,0⟩:Ru)).set k (ruAt l k)=l.take (k+1)++List.replicate (n-(k+1)) ⟨0,0,0,0,0,0,0,0,0,0⟩:=by
 subst hn
 rw [List.set_append_right _ _ (by simp;omega),List.take_succ_eq_append_getElem hk,ruAt_lt hk]
 simp only [List.length_take,Nat.min_eq_left (Nat.le_of_lt hk),Nat.sub_self]
 obtain ⟨m,hm⟩:∃ m,l.length-k=m+1:=⟨l.length-k-1,by omega⟩
 rw [hm,show l.length-(k+1)=m by omega,List.replicate_succ,List.set_cons_zero]
 simp only [List.append_assoc,List.cons_append,List.nil_append]
def RuIn (b t:Nat) (w:World) (v:Value) (l:List Ru):Prop:=SlIn b t w v l.length (rucells l)
theorem rucells_ne {l:List Ru} (h:0<l.length):rucells l≠[]:=by
 intro e
 have:=rucells_length l
 rw [e] at this
 simp at this
 omega
theorem RusAt.of_in {b t:Nat} {w:World} {a:Option Addr} {cap:Nat} {l:List Ru} (h:RuIn b t w (.slice a l.length cap) l):RusAt w a l:=by
 intro k hk
 obtain ⟨g,off,rfl,h1,h2,h3⟩:=SlIn.some h (rucells_ne (by omega))
 have hl:=rucells_length l
 obtain ⟨e0,e1,e2,e3,e4,e5,e6,e7,e8,e9⟩:=rucells_get l k hk
 refine ⟨g,off,rfl,by omega,?_,?_,?_,?_,?_,?_,?_,?_,?_,?_⟩
 ·have:=(SlIn.cells h (k*10) (by omega)).1
  rw [e0] at this
  exact this
 ·have:=(SlIn.cells h (k*10+1) (by omega)).1
  rw [e1] at this
  exact this
 ·have:=(SlIn.cells h (k*10+2) (by omega)).1
  rw [e2] at this
  exact this
 ·have:=(SlIn.cells h (k*10+3) (by omega)).1
  rw [e3] at this
  exact this
 ·have:=(SlIn.cells h (k*10+4) (by omega)).1
  rw [e4] at this
  exact this
 ·have:=(SlIn.cells h (k*10+5) (by omega)).1
  rw [e5] at this
  exact this
 ·have:=(SlIn.cells h (k*10+6) (by omega)).1
  rw [e6] at this
  exact this
 ·have:=(SlIn.cells h (k*10+7) (by omega)).1
  rw [e7] at this
  exact this
 ·have:=(SlIn.cells h (k*10+8) (by omega)).1
  rw [e8] at this
  exact this
 ·have:=(SlIn.cells h (k*10+9) (by omega)).1
  rw [e9] at this
  exact this
theorem RuIn.of_row {b t:Nat} {w:World} {v:Value} {l:List Ru} (h:RuRow b w v l) (ht:∀ k,v.ownBlock=some k→k<t) (hs:t≤w.heap.size):RuIn b t w v l:=SlIn.of_row h ht hs
def RusV (w:World) (v:Value) (l:List Ru):Prop:=∃ a c,v = .slice a l.length c∧RusAt w a l∧l.length≤c∧(a=none→c=0)
def RusW (b t:Nat) (w:World) (v:Value) (l:List Ru):Prop:=RuIn b t w v l∧∃ a c,v = .slice a l.length c∧l.length≤c∧(a=none→c=0)
section
variable {b t:Nat} {w w':World} {v:Value} {l:List Ru}
theorem RusW.at (h:RusW b t w v l):RusV w v l:=by
 obtain ⟨h1,a,c,rfl,h2⟩:=h
 exact ⟨a,c,rfl,RusAt.of_in h1,h2⟩
theorem RusV.below (h:RusV w v l) (g:Bel w w'):RusV w' v l:=by
 obtain ⟨a,c,e,h1,h2⟩:=h
 exact ⟨a,c,e,h1.below g,h2⟩
theorem RusW.keep (h:RusW b t w v l) (hs:w.heap.size≤w'.heap.size) (hk:∀ k,b≤k→k<t→w'.heap[k]? = w.heap[k]?):RusW b t w' v l:=⟨SlIn.keep h.1 hs hk,h.2⟩
theorem RusW.below (h:RusW b t w v l) (g:Bel w w'):RusW b t w' v l:=⟨SlIn.below h.1 g,h.2⟩
theorem RusW.cells (h:RusW b t w v l):∃ p q,v = .slice p l.length q:=by
 obtain ⟨_,a,c,e,_⟩:=h
 exact ⟨a,c,e⟩
theorem RusW.of_row (h:RuRow b w v l):RusW b w.heap.size w v l:=by
 refine ⟨RuIn.of_row h (fun k hk=>(h.lt k hk).2) nlr,?_⟩
 obtain ⟨a,c,e⟩:=h.shape
 subst e
 exact ⟨a,c,rfl,h.cap,h.nilCap⟩
end
structure Pz where
 rate:Int
 burst:Int
 level:Int
 tm:Int
def Pz.val (r:Pz):Value:=.agg #[.int .i64 r.rate,.int .i64 r.burst,.int .i64 r.level,.int .i64 r.tm]
def Pz.cells (r:Pz):List Value:=[.int .i64 r.rate,.int .i64 r.burst,.int .i64 r.level,.int .i64 r.tm]
structure Nd where
 up:Int
 pz:Pz
def Nd.val (r:Nd):Value:=.agg #[.int .i64 r.up,.int .i64 r.pz.rate,.int .i64 r.pz.burst,.int .i64 r.pz.level,.int .i64 r.pz.tm]
def Nd.cells (r:Nd):List Value:=[.int .i64 r.up,.int .i64 r.pz.rate,.int .i64 r.pz.burst,.int .i64 r.pz.level,.int .i64 r.pz.tm]
def ndAt (l:List Nd) (k:Nat):Nd:=l[k]?.getD ⟨0,0,0,0,0⟩
theorem ndAt_lt {l:List Nd} {k:Nat} (h:k<l.length):ndAt l k=l[k]:=by simp [ndAt,List.getElem?_eq_getElem h]
def NdsAt (w:World) (a:Option Addr) (l:List Nd):Prop :=
 ∀ k,k<l.length→∃ b off,a=some ⟨b,off,none⟩∧b<w.heap.size∧w.cell? ⟨b,off+k*5,none⟩=some (.int .i64 (ndAt l k).up)∧w.cell? ⟨b,off+k*5+1,none⟩=some (.int .i64 (ndAt l k).pz.rate)∧w.cell? ⟨b,off+k*5+2,none⟩=some (.int .i64 (ndAt l k).pz.burst)∧w.cell? ⟨b,off+k*5+3,none⟩=some (.int .i64 (ndAt l k).pz.level)∧w.cell? ⟨b,off+k*5+4,none⟩=some (.int .i64 (ndAt l k).pz.tm)
theorem NdsAt.below {w w':World} {a:Option Addr} {l:List Nd} (h:NdsAt w a l) (g:Bel w w'):NdsAt w' a l:=by
 intro k hk
 obtain ⟨b,off,e,hb,c0,c1,c2,c3,c4⟩:=h k hk
 exact ⟨b,off,e,Nat.lt_of_lt_of_le hb g.size,by rw [g.cell (p:=⟨b,off+k*5,none⟩) hb];exact c0,by rw [g.cell (p:=⟨b,off+k*5+1,none⟩) hb];exact c1,by rw [g.cell (p:=⟨b,off+k*5+2,none⟩) hb];exact c2,by rw [g.cell (p:=⟨b,off+k*5+3,none⟩) hb];exact c3,by rw [g.cell (p:=⟨b,off+k*5+4,none⟩) hb];exact c4⟩
theorem NdsAt.alloc {w:World} {a:Option Addr} {l:List Nd} (h:NdsAt w a l) (o:Obj):NdsAt (w.alloc o) a l :=
 h.below ((Below.refl _ _).alloc nlr _)
theorem NdsAt.nil (w:World) (a:Option Addr):NdsAt w a []:=by intro k hk;simp at hk
theorem NdsAt.empty {w:World} {l:List Nd} (h:NdsAt w none l):l=[]:=by
 cases l with
 |nil=>rfl
 |cons z zs=>obtain ⟨b,off,e,_⟩:=h 0 (by simp);cases e
theorem NdsAt.cells {w:World} {b off k:Nat} {l:List Nd} (h:NdsAt w (some ⟨b,off,none⟩) l) (hk:k<l.length):w.cell? ⟨b,off+k*5,none⟩=some (.int .i64 (ndAt l k).up)∧w.cell? ⟨b,off+k*5+1,none⟩=some (.int .i64 (ndAt l k).pz.rate)∧w.cell? ⟨b,off+k*5+2,none⟩=some (.int .i64 (ndAt l k).pz.burst)∧w.cell? ⟨b,off+k*5+3,none⟩=some (.int .i64 (ndAt l k).pz.level)∧w.cell? ⟨b,off+k*5+4,none⟩=some (.int .i64 (ndAt l k).pz.tm):=by
 obtain ⟨b',off',e,_,c⟩:=h k hk
 cases e
 exact c
def ndcells (l:List Nd):List Value:=l.flatMap Nd.cells
theorem ndcells_cons (r:Nd) (l:List Nd):ndcells (r :: l) = .int .i64 r.up :: .int .i64 r.pz.rate :: .int .i64 r.pz.burst :: .int .i64 r.pz.level :: .int .i64 r.pz.tm :: ndcells l:=rfl
theorem ndcells_append (a b:List Nd):ndcells (a++b)=ndcells a++ndcells b:=by simp [ndcells]
theorem ndcells_length (l:List Nd):(ndcells l).length=l.length*5:=by
 induction l with
 |nil=>rfl
 |cons r l ih=>rw [ndcells_cons];simp [ih];omega
theorem ndcells_get (l:List Nd) (k:Nat) (hk:k<l.length):(ndcells l)[k*5]? = some (.int .i64 (ndAt l k).up)∧(ndcells l)[k*5+1]? = some (.int .i64 (ndAt l k).pz.rate)∧(ndcells l)[k*5+2]? = some (.int .i64 (ndAt l k).pz.burst)∧(ndcells l)[k*5+3]? = some (.int .i64 (ndAt l k).pz.level)∧(ndcells l)[k*5+4]? = some (.int .i64 (ndAt l k).pz.tm):=by
 induction l generalizing k with
 |nil=>simp at hk
 |cons r l ih =>
  cases k with
  |zero=>simp [ndcells_cons,ndAt]
  |succ k =>
   have:=ih k (by simpa using hk)
   rw [show (k+1)*5=k*5+5 by omega]
   simpa [ndcells_cons,ndAt] using this
theorem ndcells_one (l:List Nd):∀ u∈ndcells l,u.oneCell'=true:=by
 intro u hu
 induction l with
 |nil=>simp [ndcells] at hu
 |cons r l ih =>
  rw [ndcells_cons] at hu
  simp only [List.mem_cons] at hu
  rcases hu with rfl|rfl|rfl|rfl|rfl|hu
  ·rfl
  ·rfl
  ·rfl
  ·rfl
  ·rfl
  ·exact ih hu
theorem ndcells_set (l:List Nd) (k:Nat) (r:Nd):(((((ndcells l).set (k*5) (.int .i64 r.up)).set (k*5+1) (.int .i64 r.pz.rate)).set (k*5+2) (.int .i64 r.pz.burst)).set (k*5+3) (.int .i64 r.pz.level)).set (k*5+4) (.int .i64 r.pz.tm)=ndcells (l.set k r):=by
 induction l generalizing k with
 |nil=>simp [ndcells]
 |cons x l ih =>
  cases k with
  |zero=>simp [ndcells_cons]
  |succ k =>
   rw [show (k+1)*5=k*5+5 by omega,List.set_cons_succ,ndcells_cons,ndcells_cons,← ih k]
   rfl
def NdRow (base:Nat) (w:World) (v:Value) (l:List Nd):Prop:=w.ownsRow base 77 5 v l.length (ndcells l)
theorem NdRow.carry {base:Nat} {w w':World} {v:Value} {l:List Nd} (h:NdRow base w v l) (g:∀ k,v.ownBlock=some k→k<w.heap.size→w'.heap[k]? = w.heap[k]?):NdRow base w' v l:=by
 refine ⟨h.1,h.2.imp id ?_⟩
 rintro ⟨g0,cap,cur,h1,h2,h3,h4⟩
 exact ⟨g0,cap,cur,h1,h2,by rw [g g0 (by rw [h1];rfl) (Array.getElem?_eq_some_iff.1 h3).1];exact h3,h4⟩
theorem NdRow.shape {base:Nat} {w:World} {v:Value} {l:List Nd} (h:NdRow base w v l):∃ a cap,v = .slice a l.length cap:=by
 rcases h.2 with ⟨rfl,hn⟩|⟨g,cap,cur,rfl,_⟩
 ·rw [hn];exact ⟨none,0,rfl⟩
 ·exact ⟨_,_,rfl⟩
theorem NdRow.cap {base:Nat} {w:World} {a:Option Addr} {c:Nat} {l:List Nd} (h:NdRow base w (.slice a l.length c) l):l.length≤c:=by
 rcases h.2 with ⟨e,hn⟩|⟨g',c',cur,e,_,_,h4,_⟩
 ·omega
 ·cases e;exact h4
theorem NdRow.nilCap {base:Nat} {w:World} {a:Option Addr} {c:Nat} {l:List Nd} (h:NdRow base w (.slice a l.length c) l):a=none→c=0:=by
 intro ha
 subst ha
 rcases h.2 with ⟨e,hn⟩|⟨g',c',cur,e,_⟩
 ·simpa using (Value.slice.inj e).2.2
 ·cases e
theorem NdRow.lt {base:Nat} {w:World} {v:Value} {l:List Nd} (h:NdRow base w v l):∀ k,v.ownBlock=some k→base≤k∧k<w.heap.size:=World.ownsRow.lt h
theorem NdRow.mono {base base':Nat} {w:World} {v:Value} {l:List Nd} (h:NdRow base w v l) (hb:base'≤base):NdRow base' w v l:=⟨h.1,h.2.imp id fun ⟨g,cap,cur,h1,h2,h3⟩=>⟨g,cap,cur,h1,Nat.le_trans hb h2,h3⟩⟩
theorem NdRow.at {base:Nat} {w:World} {a:Option Addr} {cap:Nat} {l:List Nd} (h:NdRow base w (.slice a l.length cap) l):NdsAt w a l:=by
 intro k hk
 rcases h.2 with ⟨_,hn⟩|⟨g,cap',cur,e,h2,h3,h4⟩
 ·omega
 ·obtain ⟨rfl,_,rfl⟩:a=some ⟨g,0,none⟩∧True∧cap=cap':=by simpa using e
  have hc:=World.ownsRow.cellAt (show w.ownsRow base 77 5 (.slice (some ⟨g,0,none⟩) l.length cap) l.length _ from h)
  obtain ⟨e0,e1,e2,e3,e4⟩:=ndcells_get l k hk
  exact ⟨g,0,rfl,(Array.getElem?_eq_some_iff.1 h3).1,by rw [Nat.zero_add,hc _ (by omega),e0],by rw [Nat.zero_add,hc _ (by omega),e1],by rw [Nat.zero_add,hc _ (by omega),e2],by rw [Nat.zero_add,hc _ (by omega),e3],by rw [Nat.zero_add,hc _ (by omega),e4]⟩
theorem NdRow.put {base:Nat} {w:World} {g cap n:Nat} {l:List Nd} (h:w.ownsRow base 77 5 (.slice (some ⟨g,0,none⟩) n cap) n (ndcells l)) (k:Nat) (r:Nd) :
 (((((w.setCell ⟨g,k*5,none⟩ (.int .i64 r.up)).setCell ⟨g,k*5+1,none⟩ (.int .i64 r.pz.rate)).setCell ⟨g,k*5+2,none⟩ (.int .i64 r.pz.burst)).setCell ⟨g,k*5+3,none⟩ (.int .i64 r.pz.level)).setCell ⟨g,k*5+4,none⟩ (.int .i64 r.pz.tm)).ownsRow base 77 5 (.slice (some ⟨g,0,none⟩) n cap) n (ndcells (l.set k r)):=by
 have h1:=(h.stored (k*5) (.int .i64 r.up)).1
 have h2:=(h1.stored (k*5+1) (.int .i64 r.pz.rate)).1
 have h3:=(h2.stored (k*5+2) (.int .i64 r.pz.burst)).1
 have h4:=(h3.stored (k*5+3) (.int .i64 r.pz.level)).1
 have h5:=(h4.stored (k*5+4) (.int .i64 r.pz.tm)).1
 rw [ndcells_set] at h5
 exact h5
theorem ndInfo:(Tryz.prog.info? 77).map (fun i=>(i.zero,i.size,i.bytes))=some (some (.agg #[.int .i64 0,.int .i64 0,.int .i64 0,.int .i64 0,.int .i64 0]),5,40):=by kernel_rfl
theorem ndMade (n:Nat):(madeCells #[Value.int .i64 0,.int .i64 0,.int .i64 0,.int .i64 0,.int .i64 0] (n*5)).toList=ndcells (List.replicate n ⟨0,0,0,0,0⟩):=by
 apply List.ext_getElem?
 intro i
 by_cases hi:i<n*5
 ·obtain ⟨k,j,rfl,hj⟩:∃ k j,i=k*5+j∧j<5:=⟨i/5,i%5,by omega,Nat.mod_lt _ (by omega)⟩
  have hk:k<n:=by omega
  obtain ⟨e0,e1,e2,e3,e4⟩:=ndcells_get (List.replicate n ⟨0,0,0,0,0⟩) k (by simpa using hk)
  have hz:ndAt (List.replicate n ⟨0,0,0,0,0⟩) k=⟨0,0,0,0,0⟩:=by simp [ndAt,hk]
  rw [hz] at e0 e1 e2 e3 e4
  have hm:(k*5+j)%5=j:=by omega
  have hL:(madeCells #[Value.int .i64 0,.int .i64 0,.int .i64 0,.int .i64 0,.int .i64 0] (n*5)).toList[k*5+j]? = some (.int .i64 0):=by
   simp [madeCells,hi,hm]
   match j,hj with
   |0,_=>rfl
   |1,_=>rfl
   |2,_=>rfl
   |3,_=>rfl
   |4,_=>rfl
  rw [hL]
  match j,hj with
  |0,_=>exact e0.symm
  |1,_=>exact e1.symm
  |2,_=>exact e2.symm
  |3,_=>exact e3.symm
  |4,_=>exact e4.symm
 ·rw [List.getElem?_eq_none (by simp [madeCells];omega),List.getElem?_eq_none (by rw [ndcells_length];simp;omega)]
theorem ndTakeSet (l:List Nd) (n k:Nat) (hn:l.length=n) (hk:k<n):(l.take k++List.replicate (n-k) (⟨0,0,0,0,0⟩:Nd)).set k (ndAt l k)=l.take (k+1)++List.replicate (n-(k+1)) ⟨0,0,0,0,0⟩:=by
 subst hn
 rw [List.set_append_right _ _ (by simp;omega),List.take_succ_eq_append_getElem hk,ndAt_lt hk]
 simp only [List.length_take,Nat.min_eq_left (Nat.le_of_lt hk),Nat.sub_self]
 obtain ⟨m,hm⟩:∃ m,l.length-k=m+1:=⟨l.length-k-1,by omega⟩
 rw [hm,show l.length-(k+1)=m by omega,List.replicate_succ,List.set_cons_zero]
 simp only [List.append_assoc,List.cons_append,List.nil_append]
theorem ndOnes (v0 v1 v2 v3 v4:Int):(#[Value.int .i64 v0,Value.int .i64 v1,Value.int .i64 v2,Value.int .i64 v3,Value.int .i64 v4]:Array Value).all (·.oneCell')=true:=by simp [Value.oneCell']
def NdIn (b t:Nat) (w:World) (v:Value) (l:List Nd):Prop:=SlIn b t w v l.length (ndcells l)
theorem ndcells_ne {l:List Nd} (h:0<l.length):ndcells l≠[]:=by
 intro e
 have:=ndcells_length l
 rw [e] at this
 simp at this
 omega
theorem NdsAt.of_in {b t:Nat} {w:World} {a:Option Addr} {cap:Nat} {l:List Nd} (h:NdIn b t w (.slice a l.length cap) l):NdsAt w a l:=by
 intro k hk
 obtain ⟨g,off,rfl,h1,h2,h3⟩:=SlIn.some h (ndcells_ne (by omega))
 have hl:=ndcells_length l
 obtain ⟨e0,e1,e2,e3,e4⟩:=ndcells_get l k hk
 refine ⟨g,off,rfl,by omega,?_,?_,?_,?_,?_⟩
 ·have:=(SlIn.cells h (k*5) (by omega)).1
  rw [e0] at this
  exact this
 ·have:=(SlIn.cells h (k*5+1) (by omega)).1
  rw [e1] at this
  exact this
 ·have:=(SlIn.cells h (k*5+2) (by omega)).1
  rw [e2] at this
  exact this
 ·have:=(SlIn.cells h (k*5+3) (by omega)).1
  rw [e3] at this
  exact this
 ·have:=(SlIn.cells h (k*5+4) (by omega)).1
  rw [e4] at this
  exact this
theorem NdIn.of_row {b t:Nat} {w:World} {v:Value} {l:List Nd} (h:NdRow b w v l) (ht:∀ k,v.ownBlock=some k→k<t) (hs:t≤w.heap.size):NdIn b t w v l:=SlIn.of_row h ht hs
def NdsV (w:World) (v:Value) (l:List Nd):Prop:=∃ a c,v = .slice a l.length c∧NdsAt w a l∧l.length≤c∧(a=none→c=0)
def NdsW (b t:Nat) (w:World) (v:Value) (l:List Nd):Prop:=NdIn b t w v l∧∃ a c,v = .slice a l.length c∧l.length≤c∧(a=none→c=0)
section
variable {b t:Nat} {w w':World} {v:Value} {l:List Nd}
theorem NdsW.at (h:NdsW b t w v l):NdsV w v l:=by
 obtain ⟨h1,a,c,rfl,h2⟩:=h
 exact ⟨a,c,rfl,NdsAt.of_in h1,h2⟩
theorem NdsV.below (h:NdsV w v l) (g:Bel w w'):NdsV w' v l:=by
 obtain ⟨a,c,e,h1,h2⟩:=h
 exact ⟨a,c,e,h1.below g,h2⟩
theorem NdsW.keep (h:NdsW b t w v l) (hs:w.heap.size≤w'.heap.size) (hk:∀ k,b≤k→k<t→w'.heap[k]? = w.heap[k]?):NdsW b t w' v l:=⟨SlIn.keep h.1 hs hk,h.2⟩
theorem NdsW.below (h:NdsW b t w v l) (g:Bel w w'):NdsW b t w' v l:=⟨SlIn.below h.1 g,h.2⟩
theorem NdsW.cells (h:NdsW b t w v l):∃ p q,v = .slice p l.length q:=by
 obtain ⟨_,a,c,e,_⟩:=h
 exact ⟨a,c,e⟩
theorem NdsW.of_row (h:NdRow b w v l):NdsW b w.heap.size w v l:=by
 refine ⟨NdIn.of_row h (fun k hk=>(h.lt k hk).2) nlr,?_⟩
 obtain ⟨a,c,e⟩:=h.shape
 subst e
 exact ⟨a,c,rfl,h.cap,h.nilCap⟩
end
def IntsV (w:World) (v:Value) (l:List Int):Prop:=∃ a c,v = .slice a l.length c∧IntsAt w a l∧l.length≤c∧(a=none→c=0)
def IntsW (b t:Nat) (w:World) (v:Value) (l:List Int):Prop:=IntIn b t w v l∧∃ a c,v = .slice a l.length c∧l.length≤c∧(a=none→c=0)
section
variable {b t:Nat} {w w':World} {v:Value} {l:List Int}
theorem IntsW.at (h:IntsW b t w v l):IntsV w v l:=by
 obtain ⟨h1,a,c,rfl,h2⟩:=h
 exact ⟨a,c,rfl,IntsAt.of_in h1,h2⟩
theorem IntsV.below (h:IntsV w v l) (g:Bel w w'):IntsV w' v l:=by
 obtain ⟨a,c,e,h1,h2⟩:=h
 exact ⟨a,c,e,h1.below g,h2⟩
theorem IntsW.keep (h:IntsW b t w v l) (hs:w.heap.size≤w'.heap.size) (hk:∀ k,b≤k→k<t→w'.heap[k]? = w.heap[k]?):IntsW b t w' v l:=⟨SlIn.keep h.1 hs hk,h.2⟩
theorem IntsW.below (h:IntsW b t w v l) (g:Bel w w'):IntsW b t w' v l:=⟨SlIn.below h.1 g,h.2⟩
theorem IntsW.cells (h:IntsW b t w v l):∃ p q,v = .slice p l.length q:=by
 obtain ⟨_,a,c,e,_⟩:=h
 exact ⟨a,c,e⟩
theorem IntsW.of_row (h:IRow b w v l):IntsW b w.heap.size w v l:=by
 refine ⟨IntIn.of_row h (fun k hk=>(World.ownsRow.lt h k hk).2) nlr,?_⟩
 obtain ⟨a,c,e⟩:=h.shape
 subst e
 refine ⟨a,c,rfl,?_,h.none⟩
 rcases h.2 with ⟨e,hn⟩|⟨g',c',cur,e,_,_,h4,_⟩
 ·omega
 ·cases e;exact h4
end
structure Sr where
 target:Int
 old:Int
 prob:Int
def Sr.val (r:Sr):Value:=.agg #[.int .i64 r.target,.int .i64 r.old,.int .i64 r.prob]
def Sr.cells (r:Sr):List Value:=[.int .i64 r.target,.int .i64 r.old,.int .i64 r.prob]
theorem srInfo:(Tryz.prog.info? 143).map (fun i=>(i.zero,i.size,i.bytes))=some (some (.agg #[.int .i64 0,.int .i64 0,.int .i64 0]),3,24):=by kernel_rfl
def srAt (l:List Sr) (k:Nat):Sr:=l[k]?.getD ⟨0,0,0⟩
theorem srAt_lt {l:List Sr} {k:Nat} (h:k<l.length):srAt l k=l[k]:=by simp [srAt,List.getElem?_eq_getElem h]
def SrsAt (w:World) (a:Option Addr) (l:List Sr):Prop :=
 ∀ k,k<l.length→∃ b off,a=some ⟨b,off,none⟩∧b<w.heap.size∧w.cell? ⟨b,off+k*3,none⟩=some (.int .i64 (srAt l k).target)∧w.cell? ⟨b,off+k*3+1,none⟩=some (.int .i64 (srAt l k).old)∧w.cell? ⟨b,off+k*3+2,none⟩=some (.int .i64 (srAt l k).prob)
theorem SrsAt.below {w w':World} {a:Option Addr} {l:List Sr} (h:SrsAt w a l) (g:Bel w w'):SrsAt w' a l:=by
 intro k hk
 obtain ⟨b,off,e,hb,c0,c1,c2⟩:=h k hk
 exact ⟨b,off,e,Nat.lt_of_lt_of_le hb g.size,by rw [g.cell (p:=⟨b,off+k*3,none⟩) hb];exact c0,by rw [g.cell (p:=⟨b,off+k*3+1,none⟩) hb];exact c1,by rw [g.cell (p:=⟨b,off+k*3+2,none⟩) hb];exact c2⟩
theorem SrsAt.alloc {w:World} {a:Option Addr} {l:List Sr} (h:SrsAt w a l) (o:Obj):SrsAt (w.alloc o) a l :=
 h.below ((Below.refl _ _).alloc nlr _)
theorem SrsAt.nil (w:World) (a:Option Addr):SrsAt w a []:=by intro k hk;simp at hk
theorem SrsAt.empty {w:World} {l:List Sr} (h:SrsAt w none l):l=[]:=by
 cases l with
 |nil=>rfl
 |cons z zs=>obtain ⟨b,off,e,_⟩:=h 0 (by simp);cases e
theorem SrsAt.cells {w:World} {b off k:Nat} {l:List Sr} (h:SrsAt w (some ⟨b,off,none⟩) l) (hk:k<l.length):w.cell? ⟨b,off+k*3,none⟩=some (.int .i64 (srAt l k).target)∧w.cell? ⟨b,off+k*3+1,none⟩=some (.int .i64 (srAt l k).old)∧w.cell? ⟨b,off+k*3+2,none⟩=some (.int .i64 (srAt l k).prob):=by
 obtain ⟨b',off',e,_,c⟩:=h k hk
 cases e
 exact c
def srcells (l:List Sr):List Value:=l.flatMap Sr.cells
theorem srcells_cons (r:Sr) (l:List Sr):srcells (r :: l) = .int .i64 r.target :: .int .i64 r.old :: .int .i64 r.prob :: srcells l:=rfl
theorem srcells_append (a b:List Sr):srcells (a++b)=srcells a++srcells b:=by simp [srcells]
theorem srcells_length (l:List Sr):(srcells l).length=l.length*3:=by
 induction l with
 |nil=>rfl
 |cons r l ih=>rw [srcells_cons];simp [ih];omega
theorem srcells_get (l:List Sr) (k:Nat) (hk:k<l.length):(srcells l)[k*3]? = some (.int .i64 (srAt l k).target)∧(srcells l)[k*3+1]? = some (.int .i64 (srAt l k).old)∧(srcells l)[k*3+2]? = some (.int .i64 (srAt l k).prob):=by
 induction l generalizing k with
 |nil=>simp at hk
 |cons r l ih =>
  cases k with
  |zero=>simp [srcells_cons,srAt]
  |succ k =>
   have:=ih k (by simpa using hk)
   rw [show (k+1)*3=k*3+3 by omega]
   simpa [srcells_cons,srAt] using this
theorem srcells_one (l:List Sr):∀ u∈srcells l,u.oneCell'=true:=by
 intro u hu
 induction l with
 |nil=>simp [srcells] at hu
 |cons r l ih =>
  rw [srcells_cons] at hu
  simp only [List.mem_cons] at hu
  rcases hu with rfl|rfl|rfl|hu
  ·rfl
  ·rfl
  ·rfl
  ·exact ih hu
theorem srcells_set (l:List Sr) (k:Nat) (r:Sr):(((srcells l).set (k*3) (.int .i64 r.target)).set (k*3+1) (.int .i64 r.old)).set (k*3+2) (.int .i64 r.prob)=srcells (l.set k r):=by
 induction l generalizing k with
 |nil=>simp [srcells]
 |cons x l ih =>
  cases k with
  |zero=>simp [srcells_cons]
  |succ k =>
   rw [show (k+1)*3=k*3+3 by omega,List.set_cons_succ,srcells_cons,srcells_cons,← ih k]
   rfl
def SrRow (base:Nat) (w:World) (v:Value) (l:List Sr):Prop:=w.ownsRow base 143 3 v l.length (srcells l)
theorem SrRow.carry {base:Nat} {w w':World} {v:Value} {l:List Sr} (h:SrRow base w v l) (g:∀ k,v.ownBlock=some k→k<w.heap.size→w'.heap[k]? = w.heap[k]?):SrRow base w' v l:=by
 refine ⟨h.1,h.2.imp id ?_⟩
 rintro ⟨g0,cap,cur,h1,h2,h3,h4⟩
 exact ⟨g0,cap,cur,h1,h2,by rw [g g0 (by rw [h1];rfl) (Array.getElem?_eq_some_iff.1 h3).1];exact h3,h4⟩
theorem SrRow.shape {base:Nat} {w:World} {v:Value} {l:List Sr} (h:SrRow base w v l):∃ a cap,v = .slice a l.length cap:=by
 rcases h.2 with ⟨rfl,hn⟩|⟨g,cap,cur,rfl,_⟩
 ·rw [hn];exact ⟨none,0,rfl⟩
 ·exact ⟨_,_,rfl⟩
theorem SrRow.cap {base:Nat} {w:World} {a:Option Addr} {c:Nat} {l:List Sr} (h:SrRow base w (.slice a l.length c) l):l.length≤c:=by
 rcases h.2 with ⟨e,hn⟩|⟨g',c',cur,e,_,_,h4,_⟩
 ·omega
 ·cases e;exact h4
theorem SrRow.nilCap {base:Nat} {w:World} {a:Option Addr} {c:Nat} {l:List Sr} (h:SrRow base w (.slice a l.length c) l):a=none→c=0:=by
 intro ha
 subst ha
 rcases h.2 with ⟨e,hn⟩|⟨g',c',cur,e,_⟩
 ·simpa using (Value.slice.inj e).2.2
 ·cases e
theorem SrRow.lt {base:Nat} {w:World} {v:Value} {l:List Sr} (h:SrRow base w v l):∀ k,v.ownBlock=some k→base≤k∧k<w.heap.size:=World.ownsRow.lt h
theorem SrRow.mono {base base':Nat} {w:World} {v:Value} {l:List Sr} (h:SrRow base w v l) (hb:base'≤base):SrRow base' w v l:=⟨h.1,h.2.imp id fun ⟨g,cap,cur,h1,h2,h3⟩=>⟨g,cap,cur,h1,Nat.le_trans hb h2,h3⟩⟩
theorem SrRow.at {base:Nat} {w:World} {a:Option Addr} {cap:Nat} {l:List Sr} (h:SrRow base w (.slice a l.length cap) l):SrsAt w a l:=by
 intro k hk
 rcases h.2 with ⟨_,hn⟩|⟨g,cap',cur,e,h2,h3,h4⟩
 ·omega
 ·obtain ⟨rfl,_,rfl⟩:a=some ⟨g,0,none⟩∧True∧cap=cap':=by simpa using e
  have hc:=World.ownsRow.cellAt (show w.ownsRow base 143 3 (.slice (some ⟨g,0,none⟩) l.length cap) l.length _ from h)
  obtain ⟨e0,e1,e2⟩:=srcells_get l k hk
  exact ⟨g,0,rfl,(Array.getElem?_eq_some_iff.1 h3).1,by rw [Nat.zero_add,hc _ (by omega),e0],by rw [Nat.zero_add,hc _ (by omega),e1],by rw [Nat.zero_add,hc _ (by omega),e2]⟩
theorem SrRow.put {base:Nat} {w:World} {g cap n:Nat} {l:List Sr} (h:w.ownsRow base 143 3 (.slice (some ⟨g,0,none⟩) n cap) n (srcells l)) (k:Nat) (r:Sr) :
 (((w.setCell ⟨g,k*3,none⟩ (.int .i64 r.target)).setCell ⟨g,k*3+1,none⟩ (.int .i64 r.old)).setCell ⟨g,k*3+2,none⟩ (.int .i64 r.prob)).ownsRow base 143 3 (.slice (some ⟨g,0,none⟩) n cap) n (srcells (l.set k r)):=by
 have h1:=(h.stored (k*3) (.int .i64 r.target)).1
 have h2:=(h1.stored (k*3+1) (.int .i64 r.old)).1
 have h3:=(h2.stored (k*3+2) (.int .i64 r.prob)).1
 rw [srcells_set] at h3
 exact h3
theorem srMade (n:Nat):(madeCells #[Value.int .i64 0,.int .i64 0,.int .i64 0] (n*3)).toList=srcells (List.replicate n ⟨0,0,0⟩):=by
 apply List.ext_getElem?
 intro i
 by_cases hi:i<n*3
 ·obtain ⟨k,j,rfl,hj⟩:∃ k j,i=k*3+j∧j<3:=⟨i/3,i%3,by omega,Nat.mod_lt _ (by omega)⟩
  have hk:k<n:=by omega
  obtain ⟨e0,e1,e2⟩:=srcells_get (List.replicate n ⟨0,0,0⟩) k (by simpa using hk)
  have hz:srAt (List.replicate n ⟨0,0,0⟩) k=⟨0,0,0⟩:=by simp [srAt,hk]
  rw [hz] at e0 e1 e2
  have hm:(k*3+j)%3=j:=by omega
  have hL:(madeCells #[Value.int .i64 0,.int .i64 0,.int .i64 0] (n*3)).toList[k*3+j]? = some (.int .i64 0):=by
   simp [madeCells,hi,hm]
   match j,hj with
   |0,_=>rfl
   |1,_=>rfl
   |2,_=>rfl
  rw [hL]
  match j,hj with
  |0,_=>exact e0.symm
  |1,_=>exact e1.symm
  |2,_=>exact e2.symm
 ·rw [List.getElem?_eq_none (by simp [madeCells];omega),List.getElem?_eq_none (by rw [srcells_length];simp;omega)]
theorem srTakeSet (l:List Sr) (n k:Nat) (hn:l.length=n) (hk:k<n):(l.take k++List.replicate (n-k) (⟨0,0,0⟩:Sr)).set k (srAt l k)=l.take (k+1)++List.replicate (n-(k+1)) ⟨0,0,0⟩:=by
 subst hn
 rw [List.set_append_right _ _ (by simp;omega),List.take_succ_eq_append_getElem hk,srAt_lt hk]
 simp only [List.length_take,Nat.min_eq_left (Nat.le_of_lt hk),Nat.sub_self]
 obtain ⟨m,hm⟩:∃ m,l.length-k=m+1:=⟨l.length-k-1,by omega⟩
 rw [hm,show l.length-(k+1)=m by omega,List.replicate_succ,List.set_cons_zero]
 simp only [List.append_assoc,List.cons_append,List.nil_append]
def SrIn (b t:Nat) (w:World) (v:Value) (l:List Sr):Prop:=SlIn b t w v l.length (srcells l)
theorem srcells_ne {l:List Sr} (h:0<l.length):srcells l≠[]:=by
 intro e
 have:=srcells_length l
 rw [e] at this
 simp at this
 omega
theorem SrsAt.of_in {b t:Nat} {w:World} {a:Option Addr} {cap:Nat} {l:List Sr} (h:SrIn b t w (.slice a l.length cap) l):SrsAt w a l:=by
 intro k hk
 obtain ⟨g,off,rfl,h1,h2,h3⟩:=SlIn.some h (srcells_ne (by omega))
 have hl:=srcells_length l
 obtain ⟨e0,e1,e2⟩:=srcells_get l k hk
 refine ⟨g,off,rfl,by omega,?_,?_,?_⟩
 ·have:=(SlIn.cells h (k*3) (by omega)).1
  rw [e0] at this
  exact this
 ·have:=(SlIn.cells h (k*3+1) (by omega)).1
  rw [e1] at this
  exact this
 ·have:=(SlIn.cells h (k*3+2) (by omega)).1
  rw [e2] at this
  exact this
theorem SrIn.of_row {b t:Nat} {w:World} {v:Value} {l:List Sr} (h:SrRow b w v l) (ht:∀ k,v.ownBlock=some k→k<t) (hs:t≤w.heap.size):SrIn b t w v l:=SlIn.of_row h ht hs
def SrsV (w:World) (v:Value) (l:List Sr):Prop:=∃ a c,v = .slice a l.length c∧SrsAt w a l∧l.length≤c∧(a=none→c=0)
def SrsW (b t:Nat) (w:World) (v:Value) (l:List Sr):Prop:=SrIn b t w v l∧∃ a c,v = .slice a l.length c∧l.length≤c∧(a=none→c=0)
section
variable {b t:Nat} {w w':World} {v:Value} {l:List Sr}
theorem SrsW.at (h:SrsW b t w v l):SrsV w v l:=by
 obtain ⟨h1,a,c,rfl,h2⟩:=h
 exact ⟨a,c,rfl,SrsAt.of_in h1,h2⟩
theorem SrsV.below (h:SrsV w v l) (g:Bel w w'):SrsV w' v l:=by
 obtain ⟨a,c,e,h1,h2⟩:=h
 exact ⟨a,c,e,h1.below g,h2⟩
theorem SrsW.keep (h:SrsW b t w v l) (hs:w.heap.size≤w'.heap.size) (hk:∀ k,b≤k→k<t→w'.heap[k]? = w.heap[k]?):SrsW b t w' v l:=⟨SlIn.keep h.1 hs hk,h.2⟩
theorem SrsW.below (h:SrsW b t w v l) (g:Bel w w'):SrsW b t w' v l:=⟨SlIn.below h.1 g,h.2⟩
theorem SrsW.cells (h:SrsW b t w v l):∃ p q,v = .slice p l.length q:=by
 obtain ⟨_,a,c,e,_⟩:=h
 exact ⟨a,c,e⟩
theorem SrsW.of_row (h:SrRow b w v l):SrsW b w.heap.size w v l:=by
 refine ⟨SrIn.of_row h (fun k hk=>(h.lt k hk).2) nlr,?_⟩
 obtain ⟨a,c,e⟩:=h.shape
 subst e
 exact ⟨a,c,rfl,h.cap,h.nilCap⟩
end
structure Ln where
 kind:Int
 extra:Int
 least:Int
def Ln.val (r:Ln):Value:=.agg #[.int .i64 r.kind,.int .i64 r.extra,.int .i64 r.least]
def Ln.cells (r:Ln):List Value:=[.int .i64 r.kind,.int .i64 r.extra,.int .i64 r.least]
def Ln.ok (l:Ln):Bool:=inB 1 3 l.kind&&(inB 0 100 l.extra&&inB 0 2000 l.least)
theorem Ln.ok_iff {l:Ln}:l.ok=true↔(1≤l.kind∧l.kind≤3)∧(0≤l.extra∧l.extra≤100)∧(0≤l.least∧l.least≤2000):=by
 simp [Ln.ok,inB]
def Ln.carry (l:Ln) (n:Int):Int:=if n+l.extra<l.least then l.least else n+l.extra
def takeK (k c:Int):Int:=if k=2 then (c+47)/48*53 else if k=3 then c+(c+63)/64 else c
def Ln.takes (l:Ln) (n:Int):Int:=takeK l.kind (l.carry n)
theorem carry_le {l:Ln} (h:l.ok=true) (n:Int):0≤l.carry n∧n≤l.carry n:=by
 have:=Ln.ok_iff.1 h
 unfold Ln.carry;split<;>omega
theorem carry_most {l:Ln} (h:l.ok=true) {n:Int} (n1:n≤100000):l.carry n≤100100:=by
 have:=Ln.ok_iff.1 h
 unfold Ln.carry;split<;>omega
def Ln.on (l:Ln) (n:Int):Int:=if (l.ok&&inB 0 100000 n)=true then l.takes n else -1
theorem on_ok {l:Ln} {n:Int} (h:l.ok=true) (g:inB 0 100000 n=true):l.on n=l.takes n:=by simp [Ln.on,h,g]
structure Gt where
 ln:Ln
 routes:List Rt
 rules:List Ru
 tree:List Nd
 leaves:List Int
 rows:Rw
 steers:List Sr
 fair:Fs
 next:Int
 draw:Int
structure Ga where
 a1:Option Addr
 c1:Nat
 a2:Option Addr
 c2:Nat
 a3:Option Addr
 c3:Nat
 a4:Option Addr
 c4:Nat
 a5:Option Addr
 c5:Nat
 a6:Option Addr
 c6:Nat
 a7:Option Addr
 c7:Nat
structure Gf where
 b1:Nat
 t1:Nat
 b2:Nat
 t2:Nat
 b3:Nat
 t3:Nat
 b4:Nat
 t4:Nat
 b5:Nat
 t5:Nat
 b6:Nat
 t6:Nat
 b7:Nat
 t7:Nat
def Gt.cells (g:Gt) (x:Ga):Array Value:=#[.int .i64 g.ln.kind,.int .i64 g.ln.extra,.int .i64 g.ln.least,.slice x.a1 g.routes.length x.c1,.slice x.a2 g.rules.length x.c2,.slice x.a3 g.tree.length x.c3,.slice x.a4 g.leaves.length x.c4,.int .i64 g.rows.most,.slice x.a5 g.rows.lists.length x.c5,.slice x.a6 g.steers.length x.c6,.int .i64 g.fair.now,.slice x.a7 g.fair.flows.length x.c7,.int .i64 g.next,.int .i64 g.draw]
def Gt.val (g:Gt) (x:Ga):Value:=.agg (g.cells x)
def Gt.big (g:Gt):Nat:=g.routes.length+g.rules.length+g.tree.length+g.leaves.length+g.rows.big+g.steers.length+g.fair.big
structure GtV (w:World) (x:Ga) (g:Gt):Prop where
 routes:RtsV w (.slice x.a1 g.routes.length x.c1) g.routes
 rules:RusV w (.slice x.a2 g.rules.length x.c2) g.rules
 tree:NdsV w (.slice x.a3 g.tree.length x.c3) g.tree
 leaves:IntsV w (.slice x.a4 g.leaves.length x.c4) g.leaves
 rows:RwAt w (g.rows.val x.a5 x.c5) g.rows
 steers:SrsV w (.slice x.a6 g.steers.length x.c6) g.steers
 fair:FsAt w (g.fair.val x.a7 x.c7) g.fair
def GtAt (w:World) (v:Value) (g:Gt):Prop:=∃ x,v=g.val x∧GtV w x g
structure GtW (w:World) (x:Ga) (f:Gf) (g:Gt):Prop where
 routes:RtsW f.b1 f.t1 w (.slice x.a1 g.routes.length x.c1) g.routes
 rules:RusW f.b2 f.t2 w (.slice x.a2 g.rules.length x.c2) g.rules
 tree:NdsW f.b3 f.t3 w (.slice x.a3 g.tree.length x.c3) g.tree
 leaves:IntsW f.b4 f.t4 w (.slice x.a4 g.leaves.length x.c4) g.leaves
 rows:RwIn f.b5 f.t5 w (g.rows.val x.a5 x.c5) g.rows
 steers:SrsW f.b6 f.t6 w (.slice x.a6 g.steers.length x.c6) g.steers
 fair:FsIn f.b7 f.t7 w (g.fair.val x.a7 x.c7) g.fair
structure Gf.In (f:Gf) (b t:Nat):Prop where
 l1:b≤f.b1
 h1:f.t1≤t
 l2:b≤f.b2
 h2:f.t2≤t
 l3:b≤f.b3
 h3:f.t3≤t
 l4:b≤f.b4
 h4:f.t4≤t
 l5:b≤f.b5
 h5:f.t5≤t
 l6:b≤f.b6
 h6:f.t6≤t
 l7:b≤f.b7
 h7:f.t7≤t
structure Gf.Apart (f:Gf):Prop where
 p12:f.t1≤f.b2∨f.t2≤f.b1
 p13:f.t1≤f.b3∨f.t3≤f.b1
 p14:f.t1≤f.b4∨f.t4≤f.b1
 p15:f.t1≤f.b5∨f.t5≤f.b1
 p16:f.t1≤f.b6∨f.t6≤f.b1
 p17:f.t1≤f.b7∨f.t7≤f.b1
 p23:f.t2≤f.b3∨f.t3≤f.b2
 p24:f.t2≤f.b4∨f.t4≤f.b2
 p25:f.t2≤f.b5∨f.t5≤f.b2
 p26:f.t2≤f.b6∨f.t6≤f.b2
 p27:f.t2≤f.b7∨f.t7≤f.b2
 p34:f.t3≤f.b4∨f.t4≤f.b3
 p35:f.t3≤f.b5∨f.t5≤f.b3
 p36:f.t3≤f.b6∨f.t6≤f.b3
 p37:f.t3≤f.b7∨f.t7≤f.b3
 p45:f.t4≤f.b5∨f.t5≤f.b4
 p46:f.t4≤f.b6∨f.t6≤f.b4
 p47:f.t4≤f.b7∨f.t7≤f.b4
 p56:f.t5≤f.b6∨f.t6≤f.b5
 p57:f.t5≤f.b7∨f.t7≤f.b5
 p67:f.t6≤f.b7∨f.t7≤f.b6
def GtIn (b t:Nat) (w:World) (v:Value) (g:Gt):Prop:=∃ x f,v=g.val x∧GtW w x f g∧f.In b t∧f.Apart∧t≤w.heap.size
section
variable {b t:Nat} {w w':World} {v:Value} {x:Ga} {f:Gf} {g:Gt}
theorem GtV.below (h:GtV w x g) (q:Bel w w'):GtV w' x g:=⟨h.routes.below q,h.rules.below q,h.tree.below q,h.leaves.below q,h.rows.below q,h.steers.below q,h.fair.below q⟩
theorem GtW.at (h:GtW w x f g):GtV w x g:=⟨h.routes.at,h.rules.at,h.tree.at,h.leaves.at,h.rows.at,h.steers.at,h.fair.at⟩
theorem GtW.below (h:GtW w x f g) (q:Bel w w'):GtW w' x f g:=⟨h.routes.below q,h.rules.below q,h.tree.below q,h.leaves.below q,h.rows.below q,h.steers.below q,h.fair.below q⟩
theorem GtW.keep (h:GtW w x f g) (i:f.In b t) (hs:w.heap.size≤w'.heap.size) (hk:∀ k,b≤k→k<t→w'.heap[k]? = w.heap[k]?):GtW w' x f g :=
 ⟨h.routes.keep hs (fun k k1 k2=>hk k (Nat.le_trans i.l1 k1) (Nat.lt_of_lt_of_le k2 i.h1)),h.rules.keep hs (fun k k1 k2=>hk k (Nat.le_trans i.l2 k1) (Nat.lt_of_lt_of_le k2 i.h2)),h.tree.keep hs (fun k k1 k2=>hk k (Nat.le_trans i.l3 k1) (Nat.lt_of_lt_of_le k2 i.h3)),h.leaves.keep hs (fun k k1 k2=>hk k (Nat.le_trans i.l4 k1) (Nat.lt_of_lt_of_le k2 i.h4)),h.rows.keep hs (fun k k1 k2=>hk k (Nat.le_trans i.l5 k1) (Nat.lt_of_lt_of_le k2 i.h5)),h.steers.keep hs (fun k k1 k2=>hk k (Nat.le_trans i.l6 k1) (Nat.lt_of_lt_of_le k2 i.h6)),h.fair.keep hs (fun k k1 k2=>hk k (Nat.le_trans i.l7 k1) (Nat.lt_of_lt_of_le k2 i.h7))⟩
theorem Gf.In.wide {b' t':Nat} (i:f.In b t) (hb:b'≤b) (ht:t≤t'):f.In b' t':=⟨Nat.le_trans hb i.l1,Nat.le_trans i.h1 ht,Nat.le_trans hb i.l2,Nat.le_trans i.h2 ht,Nat.le_trans hb i.l3,Nat.le_trans i.h3 ht,Nat.le_trans hb i.l4,Nat.le_trans i.h4 ht,Nat.le_trans hb i.l5,Nat.le_trans i.h5 ht,Nat.le_trans hb i.l6,Nat.le_trans i.h6 ht,Nat.le_trans hb i.l7,Nat.le_trans i.h7 ht⟩
theorem GtIn.at (h:GtIn b t w v g):GtAt w v g:=by
 obtain ⟨x,f,e,h,_⟩:=h
 exact ⟨x,e,h.at⟩
theorem GtAt.below (h:GtAt w v g) (q:Bel w w'):GtAt w' v g:=by
 obtain ⟨x,e,h⟩:=h
 exact ⟨x,e,h.below q⟩
theorem GtIn.below (h:GtIn b t w v g) (q:Bel w w'):GtIn b t w' v g:=by
 obtain ⟨x,f,e,h,i,a,s⟩:=h
 exact ⟨x,f,e,h.below q,i,a,Nat.le_trans s q.size⟩
theorem GtIn.keep (h:GtIn b t w v g) (hs:w.heap.size≤w'.heap.size) (hk:∀ k,b≤k→k<t→w'.heap[k]? = w.heap[k]?):GtIn b t w' v g:=by
 obtain ⟨x,f,e,h,i,a,s⟩:=h
 exact ⟨x,f,e,h.keep i hs hk,i,a,Nat.le_trans s hs⟩
theorem GtIn.cells (h:GtIn b t w v g):∃ x,v=g.val x:=by
 obtain ⟨x,f,e,_⟩:=h
 exact ⟨x,e⟩
theorem GtW.turn1 (h:GtW w x f g) (i:f.In b t) (hw:t≤w.heap.size) (ap:f.Apart) (s:Span f.b1 f.t1 w w') {g':List Rt} (r:RtsW f.b1 f.t1 w' (.slice x.a1 g'.length x.c1) g'):GtW w' x f { g with routes:=g' } :=
 ⟨r,h.rules.keep s.size (fun k k1 k2=>s.block k (by have:=i.h2;omega) (by have:=ap.p12;omega)),h.tree.keep s.size (fun k k1 k2=>s.block k (by have:=i.h3;omega) (by have:=ap.p13;omega)),h.leaves.keep s.size (fun k k1 k2=>s.block k (by have:=i.h4;omega) (by have:=ap.p14;omega)),h.rows.keep s.size (fun k k1 k2=>s.block k (by have:=i.h5;omega) (by have:=ap.p15;omega)),h.steers.keep s.size (fun k k1 k2=>s.block k (by have:=i.h6;omega) (by have:=ap.p16;omega)),h.fair.keep s.size (fun k k1 k2=>s.block k (by have:=i.h7;omega) (by have:=ap.p17;omega))⟩
theorem GtW.turn2 (h:GtW w x f g) (i:f.In b t) (hw:t≤w.heap.size) (ap:f.Apart) (s:Span f.b2 f.t2 w w') {g':List Ru} (r:RusW f.b2 f.t2 w' (.slice x.a2 g'.length x.c2) g'):GtW w' x f { g with rules:=g' } :=
 ⟨h.routes.keep s.size (fun k k1 k2=>s.block k (by have:=i.h1;omega) (by have:=ap.p12;omega)),r,h.tree.keep s.size (fun k k1 k2=>s.block k (by have:=i.h3;omega) (by have:=ap.p23;omega)),h.leaves.keep s.size (fun k k1 k2=>s.block k (by have:=i.h4;omega) (by have:=ap.p24;omega)),h.rows.keep s.size (fun k k1 k2=>s.block k (by have:=i.h5;omega) (by have:=ap.p25;omega)),h.steers.keep s.size (fun k k1 k2=>s.block k (by have:=i.h6;omega) (by have:=ap.p26;omega)),h.fair.keep s.size (fun k k1 k2=>s.block k (by have:=i.h7;omega) (by have:=ap.p27;omega))⟩
theorem GtW.turn3 (h:GtW w x f g) (i:f.In b t) (hw:t≤w.heap.size) (ap:f.Apart) (s:Span f.b3 f.t3 w w') {g':List Nd} (r:NdsW f.b3 f.t3 w' (.slice x.a3 g'.length x.c3) g'):GtW w' x f { g with tree:=g' } :=
 ⟨h.routes.keep s.size (fun k k1 k2=>s.block k (by have:=i.h1;omega) (by have:=ap.p13;omega)),h.rules.keep s.size (fun k k1 k2=>s.block k (by have:=i.h2;omega) (by have:=ap.p23;omega)),r,h.leaves.keep s.size (fun k k1 k2=>s.block k (by have:=i.h4;omega) (by have:=ap.p34;omega)),h.rows.keep s.size (fun k k1 k2=>s.block k (by have:=i.h5;omega) (by have:=ap.p35;omega)),h.steers.keep s.size (fun k k1 k2=>s.block k (by have:=i.h6;omega) (by have:=ap.p36;omega)),h.fair.keep s.size (fun k k1 k2=>s.block k (by have:=i.h7;omega) (by have:=ap.p37;omega))⟩
theorem GtW.turn4 (h:GtW w x f g) (i:f.In b t) (hw:t≤w.heap.size) (ap:f.Apart) (s:Span f.b4 f.t4 w w') {g':List Int} (r:IntsW f.b4 f.t4 w' (.slice x.a4 g'.length x.c4) g'):GtW w' x f { g with leaves:=g' } :=
 ⟨h.routes.keep s.size (fun k k1 k2=>s.block k (by have:=i.h1;omega) (by have:=ap.p14;omega)),h.rules.keep s.size (fun k k1 k2=>s.block k (by have:=i.h2;omega) (by have:=ap.p24;omega)),h.tree.keep s.size (fun k k1 k2=>s.block k (by have:=i.h3;omega) (by have:=ap.p34;omega)),r,h.rows.keep s.size (fun k k1 k2=>s.block k (by have:=i.h5;omega) (by have:=ap.p45;omega)),h.steers.keep s.size (fun k k1 k2=>s.block k (by have:=i.h6;omega) (by have:=ap.p46;omega)),h.fair.keep s.size (fun k k1 k2=>s.block k (by have:=i.h7;omega) (by have:=ap.p47;omega))⟩
theorem GtW.turn5 (h:GtW w x f g) (i:f.In b t) (hw:t≤w.heap.size) (ap:f.Apart) (s:Span f.b5 f.t5 w w') {g':Rw} (r:RwIn f.b5 f.t5 w' (g'.val x.a5 x.c5) g'):GtW w' x f { g with rows:=g' } :=
 ⟨h.routes.keep s.size (fun k k1 k2=>s.block k (by have:=i.h1;omega) (by have:=ap.p15;omega)),h.rules.keep s.size (fun k k1 k2=>s.block k (by have:=i.h2;omega) (by have:=ap.p25;omega)),h.tree.keep s.size (fun k k1 k2=>s.block k (by have:=i.h3;omega) (by have:=ap.p35;omega)),h.leaves.keep s.size (fun k k1 k2=>s.block k (by have:=i.h4;omega) (by have:=ap.p45;omega)),r,h.steers.keep s.size (fun k k1 k2=>s.block k (by have:=i.h6;omega) (by have:=ap.p56;omega)),h.fair.keep s.size (fun k k1 k2=>s.block k (by have:=i.h7;omega) (by have:=ap.p57;omega))⟩
theorem GtW.turn6 (h:GtW w x f g) (i:f.In b t) (hw:t≤w.heap.size) (ap:f.Apart) (s:Span f.b6 f.t6 w w') {g':List Sr} (r:SrsW f.b6 f.t6 w' (.slice x.a6 g'.length x.c6) g'):GtW w' x f { g with steers:=g' } :=
 ⟨h.routes.keep s.size (fun k k1 k2=>s.block k (by have:=i.h1;omega) (by have:=ap.p16;omega)),h.rules.keep s.size (fun k k1 k2=>s.block k (by have:=i.h2;omega) (by have:=ap.p26;omega)),h.tree.keep s.size (fun k k1 k2=>s.block k (by have:=i.h3;omega) (by have:=ap.p36;omega)),h.leaves.keep s.size (fun k k1 k2=>s.block k (by have:=i.h4;omega) (by have:=ap.p46;omega)),h.rows.keep s.size (fun k k1 k2=>s.block k (by have:=i.h5;omega) (by have:=ap.p56;omega)),r,h.fair.keep s.size (fun k k1 k2=>s.block k (by have:=i.h7;omega) (by have:=ap.p67;omega))⟩
theorem GtW.turn7 (h:GtW w x f g) (i:f.In b t) (hw:t≤w.heap.size) (ap:f.Apart) (s:Span f.b7 f.t7 w w') {g':Fs} (r:FsIn f.b7 f.t7 w' (g'.val x.a7 x.c7) g'):GtW w' x f { g with fair:=g' } :=
 ⟨h.routes.keep s.size (fun k k1 k2=>s.block k (by have:=i.h1;omega) (by have:=ap.p17;omega)),h.rules.keep s.size (fun k k1 k2=>s.block k (by have:=i.h2;omega) (by have:=ap.p27;omega)),h.tree.keep s.size (fun k k1 k2=>s.block k (by have:=i.h3;omega) (by have:=ap.p37;omega)),h.leaves.keep s.size (fun k k1 k2=>s.block k (by have:=i.h4;omega) (by have:=ap.p47;omega)),h.rows.keep s.size (fun k k1 k2=>s.block k (by have:=i.h5;omega) (by have:=ap.p57;omega)),h.steers.keep s.size (fun k k1 k2=>s.block k (by have:=i.h6;omega) (by have:=ap.p67;omega)),r⟩
end
theorem RtsV.spot' {w:World} {a:Option Addr} {n c:Nat} {l:List Rt} (h:RtsV w (.slice a n c) l):RtsAt w a l:=by
 obtain ⟨a',c',e,h1,_⟩:=h
 cases e
 exact h1
theorem RusV.spot' {w:World} {a:Option Addr} {n c:Nat} {l:List Ru} (h:RusV w (.slice a n c) l):RusAt w a l:=by
 obtain ⟨a',c',e,h1,_⟩:=h
 cases e
 exact h1
theorem NdsV.spot' {w:World} {a:Option Addr} {n c:Nat} {l:List Nd} (h:NdsV w (.slice a n c) l):NdsAt w a l:=by
 obtain ⟨a',c',e,h1,_⟩:=h
 cases e
 exact h1
theorem IntsV.spot' {w:World} {a:Option Addr} {n c:Nat} {l:List Int} (h:IntsV w (.slice a n c) l):IntsAt w a l:=by
 obtain ⟨a',c',e,h1,_⟩:=h
 cases e
 exact h1
theorem SrsV.spot' {w:World} {a:Option Addr} {n c:Nat} {l:List Sr} (h:SrsV w (.slice a n c) l):SrsAt w a l:=by
 obtain ⟨a',c',e,h1,_⟩:=h
 cases e
 exact h1
theorem lies_cell {w:World} {ts:List Thing} {W:World} {g:Nat} {cs:Array Value} {T:TypeId} (h:Lies w (Thing.box g cs T :: ts) W) (j:Nat) (u:Value) {cs':Array Value} (hr:cs.setIfInBounds j u=cs') (off:OffT g (g+1) ts) (lo:w.heap.size≤g):Lies w (Thing.box g cs' T :: ts) (W.setCell ⟨g,j,none⟩ u):=by
 have sp:Span g (g+1) W (W.setCell ⟨g,j,none⟩ u):=⟨rfl,rfl,rfl,by simp [World.setCell],fun k _ hk=>Below.heap_setCell _ _ _ _ (by show k≠g;omega)⟩
 exact ⟨⟨by rw [← hr];exact (show Boxed W g cs T from h.1.1).put j u,h.1.2.span sp off⟩,h.2.setCell (p:=⟨g,j,none⟩) lo _⟩
theorem RwAt.spot {w:World} {r:Rw} {a:Option Addr} {c:Nat} (h:RwAt w (r.val a c) r):IzAt w a r.lists:=by
 obtain ⟨a',c',e,h⟩:=h
 unfold Rw.val at e
 injection e with e
 have:=congrArg (·[1]?) e
 simp at this
 rw [this.1]
 exact h
theorem FsAt.spot {w:World} {r:Fs} {a:Option Addr} {c:Nat} (h:FsAt w (r.val a c) r):FwsAt w a r.flows:=by
 obtain ⟨a',c',e,h⟩:=h
 unfold Fs.val at e
 injection e with e
 have:=congrArg (·[1]?) e
 simp at this
 rw [this.1]
 exact h
theorem Gt.small {g:Gt} (h:g.big≤1048576):g.routes.length≤1048576∧g.rules.length≤1048576∧g.tree.length≤1048576∧g.leaves.length≤1048576∧g.rows.big≤1048576∧g.steers.length≤1048576∧g.fair.big≤1048576:=by
 unfold Gt.big at h
 omega
end Go.Proofs.YtmfabeghfdoibaaGreat
