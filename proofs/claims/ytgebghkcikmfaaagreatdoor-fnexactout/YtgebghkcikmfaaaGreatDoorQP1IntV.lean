import Derived.Test.YtgebghkcikmfaaaGreatDoorQP0NumIn
import Derived.Laws.AppendOwnNone
import Derived.Lib.SliceRun
namespace Go.Proofs.YtgebghkcikmfaaaGreatDoor
open Go.RowKit
structure Span (b t:Nat) (w w':World):Prop where
 os:w'.os=w.os
 tape:w'.tape=w.tape
 output:w'.output=w.output
 size:w.heap.size≤w'.heap.size
 block:∀ k,k<w.heap.size→k<b∨t≤k→w'.heap[k]? = w.heap[k]?
theorem Span.trans {b t:Nat} {x y z:World} (h:Span b t x y) (g:Span b t y z):Span b t x z :=
 ⟨g.os.trans h.os,g.tape.trans h.tape,g.output.trans h.output,Nat.le_trans h.size g.size,fun k hk hb=>(g.block k (Nat.lt_of_lt_of_le hk h.size) hb).trans (h.block k hk hb)⟩
theorem Span.of_turn {H:Nat→Nat→Prop} {b t:Nat} {w w':World} (h:Turn H w w') (hb:∀ k o,H k o→b≤k∧k<t):Span b t w w' :=
 ⟨h.os,h.tape,h.output,Nat.le_of_eq h.size.symm,fun k _ hk=>h.block k fun o ho=>by have:=hb k o ho;omega⟩
theorem Span.of_below {b t:Nat} {w w':World} (h:Bel w w'):Span b t w w':=⟨h.os,h.tape,h.output,h.size,fun k hk _=>h.block k hk⟩
theorem Span.below {b t n:Nat} {w w':World} (h:Span b t w w') (hn:n≤b) (hs:n≤w.heap.size):Below n w w':=⟨h.os,h.tape,h.output,h.size,fun k hk=>h.block k (by omega) (.inl (by omega))⟩
structure Thing where
 P:World→Prop
 lo:Nat
 hi:Nat
 keep:∀ {W W':World},P W→W.heap.size≤W'.heap.size→(∀ k,lo≤k→k<hi→W'.heap[k]? = W.heap[k]?)→P W'
 lt:∀ {W:World},P W→hi≤W.heap.size
def AllT:List Thing→World→Prop
 |[],_=>True
 |t :: r,W=>t.P W∧AllT r W
def OffT (b t:Nat):List Thing→Prop
 |[]=>True
 |x :: r=>(x.hi≤b∨t≤x.lo)∧OffT b t r
theorem AllT.below:∀ {ts:List Thing} {W W':World},AllT ts W→Bel W W'→AllT ts W'
 |[],_,_,_,_=>trivial
 |t :: _,_,_,h,g=>⟨t.keep h.1 g.size (fun k _ hk=>g.block k (Nat.lt_of_lt_of_le hk (t.lt h.1))),AllT.below h.2 g⟩
theorem AllT.span:∀ {ts:List Thing} {W W':World} {b t:Nat},AllT ts W→Span b t W W'→OffT b t ts→AllT ts W'
 |[],_,_,_,_,_,_,_=>trivial
 |x :: _,_,_,_,_,h,g,o=>⟨x.keep h.1 g.size (fun k h1 h2=>g.block k (Nat.lt_of_lt_of_le h2 (x.lt h.1)) (by
  rcases o.1 with q|q
  ·left;omega
  ·right;omega)),AllT.span h.2 g o.2⟩
theorem AllT.app:∀ {ts us:List Thing} {W:World},AllT ts W→AllT us W→AllT (ts++us) W
 |[],_,_,_,h=>h
 |_ :: _,_,_,h,g=>⟨h.1,AllT.app h.2 g⟩
def Lies (w:World) (ts:List Thing) (W:World):Prop:=AllT ts W∧Bel w W
theorem Lies.below {w:World} {ts:List Thing} {W W':World} (h:Lies w ts W) (g:Bel W W'):Lies w ts W':=⟨h.1.below g,h.2.trans (g.mono h.2.size)⟩
theorem Lies.span {w:World} {ts:List Thing} {W W':World} {b t:Nat} (h:Lies w ts W) (g:Span b t W W') (o:OffT b t ts) (hb:w.heap.size≤b):Lies w ts W':=⟨h.1.span g o,h.2.trans (g.below hb h.2.size)⟩
theorem Lies.more {w:World} {ts us:List Thing} {W W':World} (h:Lies w ts W) (g:Bel W W') (u:AllT us W'):Lies w (ts++us) W':=⟨(h.below g).1.app u,(h.below g).2⟩
abbrev Thing.box (B:Nat) (cs:Array Value) (t:TypeId):Thing where
 P:=fun W=>Boxed W B cs t
 lo:=B
 hi:=B+1
 keep:=fun h _ g=>by unfold Boxed at *;rw [g B nlr (by omega)];exact h
 lt:=fun h=>h.under
abbrev Thing.own (P:World→Prop) (b t:Nat) (hk:∀ {W W':World},P W→W.heap.size≤W'.heap.size→(∀ k,b≤k→k<t→W'.heap[k]? = W.heap[k]?)→P W'):Thing where
 P:=fun W=>P W∧t≤W.heap.size
 lo:=b
 hi:=t
 keep:=fun h s g=>⟨hk h.1 s g,Nat.le_trans h.2 s⟩
 lt:=fun h=>h.2
structure Rt where
 net:Int
 bits:Int
 hop:Int
def Rt.val (r:Rt):Value:=.agg #[.int .i64 r.net,.int .i64 r.bits,.int .i64 r.hop]
def Rt.cells (r:Rt):List Value:=[.int .i64 r.net,.int .i64 r.bits,.int .i64 r.hop]
def rtAt (l:List Rt) (k:Nat):Rt:=l[k]?.getD ⟨0,0,0⟩
theorem rtAt_lt {l:List Rt} {k:Nat} (h:k<l.length):rtAt l k=l[k]:=by simp [rtAt,List.getElem?_eq_getElem h]
def RtsAt (w:World) (a:Option Addr) (l:List Rt):Prop :=
 ∀ k,k<l.length→∃ b off,a=some ⟨b,off,none⟩∧b<w.heap.size∧w.cell? ⟨b,off+k*3,none⟩=some (.int .i64 (rtAt l k).net)∧w.cell? ⟨b,off+k*3+1,none⟩=some (.int .i64 (rtAt l k).bits)∧w.cell? ⟨b,off+k*3+2,none⟩=some (.int .i64 (rtAt l k).hop)
theorem RtsAt.below {w w':World} {a:Option Addr} {l:List Rt} (h:RtsAt w a l) (g:Bel w w'):RtsAt w' a l:=by
 intro k hk
 obtain ⟨b,off,e,hb,c0,c1,c2⟩:=h k hk
 exact ⟨b,off,e,Nat.lt_of_lt_of_le hb g.size,by rw [g.cell (p:=⟨b,off+k*3,none⟩) hb];exact c0,by rw [g.cell (p:=⟨b,off+k*3+1,none⟩) hb];exact c1,by rw [g.cell (p:=⟨b,off+k*3+2,none⟩) hb];exact c2⟩
theorem RtsAt.alloc {w:World} {a:Option Addr} {l:List Rt} (h:RtsAt w a l) (o:Obj):RtsAt (w.alloc o) a l :=
 h.below ((Below.refl _ _).alloc nlr _)
theorem RtsAt.nil (w:World) (a:Option Addr):RtsAt w a []:=by intro k hk;simp at hk
theorem cells_at {w:World} {b off k:Nat} {l:List Rt} (h:RtsAt w (some ⟨b,off,none⟩) l) (hk:k<l.length):w.cell? ⟨b,off+k*3,none⟩=some (.int .i64 (rtAt l k).net)∧w.cell? ⟨b,off+k*3+1,none⟩=some (.int .i64 (rtAt l k).bits)∧w.cell? ⟨b,off+k*3+2,none⟩=some (.int .i64 (rtAt l k).hop):=by
 obtain ⟨b',off',e,_,c⟩:=h k hk
 cases e
 exact c
def netB (net bits:Int):Bool:=inB 0 32 bits&&(inB 0 4294967295 net&&decide (net%2 ^ (32-bits).toNat=0))
def Rt.ok (r:Rt):Bool:=netB r.net r.bits&&inB 0 99 r.hop
def Rt.lt (a b:Rt):Bool:=decide (a.net<b.net∨a.net=b.net∧a.bits<b.bits)
def good (l:List Rt) (i:Nat):Bool:=(rtAt l i).ok&&(decide (i=0)||(rtAt l (i-1)).lt (rtAt l i))
def goodTo (l:List Rt) (k:Nat):Bool:=(List.range k).all (good l)
theorem goodTo_succ (l:List Rt) (k:Nat):goodTo l (k+1)=(goodTo l k&&good l k):=by simp [goodTo,List.range_succ]
theorem goodTo_hit {l:List Rt} {k n:Nat} (h:k<n) (g:good l k=false):goodTo l n=false:=by
 unfold goodTo
 rw [List.all_eq_false]
 exact ⟨k,List.mem_range.2 h,by simp [g]⟩
def rtsOk (l:List Rt):Bool:=decide (l.length≤64)&&goodTo l l.length
theorem pow_le32 {s:Nat} (h:s≤32):(2:Int) ^ s≤4294967296:=by
 have:(2:Nat) ^ s≤2 ^ 32:=Nat.pow_le_pow_right (by decide) h
 have e:((2 ^ s:Nat):Int)=(2:Int) ^ s:=by simp
 omega
theorem pow_pos' (s:Nat):(0:Int)<(2:Int) ^ s:=by
 have:0<(2:Nat) ^ s:=Nat.two_pow_pos s
 have e:((2 ^ s:Nat):Int)=(2:Int) ^ s:=by simp
 omega
theorem bits_of {bits:Int} (h:inB 0 32 bits=true):∃ s:Nat,s≤32∧bits=32-(s:Int):=by
 rw [inB_true] at h
 exact ⟨(32-bits).toNat,by omega,by omega⟩
theorem pow_of {s:Nat} (h:s≤32):(2:Int) ^ (32-(32-(s:Int))).toNat=2 ^ s:=by
 rw [show (32-(32-(s:Int))).toNat=s by omega]
theorem xor_shift {n a:Int} {s:Nat} (n0:0≤n) (n1:n≤4294967295) (a0:0≤a) (a1:a≤4294967295):(bits .xor .i64 n a/2 ^ s=0)↔n/2 ^ s=a/2 ^ s:=by
 obtain ⟨x,rfl⟩:=Int.eq_ofNat_of_zero_le n0
 obtain ⟨y,rfl⟩:=Int.eq_ofNat_of_zero_le a0
 have hx:x<2 ^ 32:=by omega
 have hy:y<2 ^ 32:=by omega
 have hz:x ^^^ y<2 ^ 32:=Nat.xor_lt_two_pow hx hy
 have key:bits .xor .i64 (x:Int) (y:Int)=((x ^^^ y:Nat):Int):=by
  show IntKind.i64.wrap ((BitVec.ofInt 64 (x:Int) ^^^ BitVec.ofInt 64 (y:Int)).toNat:Nat)=_
  rw [BitVec.toNat_xor,BitVec.toNat_ofInt,BitVec.toNat_ofInt,IntKind.wrap_i64]
  rw [show (((x:Int)%((2 ^ 64:Nat):Int)).toNat)=x by omega,show (((y:Int)%((2 ^ 64:Nat):Int)).toNat)=y by omega]
  omega
 rw [key]
 have e:((2 ^ s:Nat):Int)=(2:Int) ^ s:=by simp
 rw [← e,← Int.natCast_ediv,← Int.natCast_ediv,← Int.natCast_ediv,← Nat.shiftRight_eq_div_pow,← Nat.shiftRight_eq_div_pow,← Nat.shiftRight_eq_div_pow,Nat.shiftRight_xor_distrib]
 rw [Int.natCast_inj,show (0:Int)=((0:Nat):Int) from rfl,Int.natCast_inj]
 generalize x >>> s=p
 generalize y >>> s=q
 constructor
 ·intro h
  have h2:p ^^^ q ^^^ q=q:=by rw [h,Nat.zero_xor]
  rwa [Nat.xor_assoc,Nat.xor_self,Nat.xor_zero] at h2
 ·intro h;rw [h,Nat.xor_self]
theorem and_mask {n:Int} {s:Nat} (hs:s≤32) (n0:0≤n) (n1:n≤4294967295):bits .and .i64 n (2 ^ s-1)=n%2 ^ s:=by
 obtain ⟨x,rfl⟩:=Int.eq_ofNat_of_zero_le n0
 have hx:x<2 ^ 32:=by omega
 have e:((2 ^ s:Nat):Int)=(2:Int) ^ s:=by simp
 have p1:=pow_le32 hs
 have p0:=pow_pos' s
 show IntKind.i64.wrap ((BitVec.ofInt 64 (x:Int) &&& BitVec.ofInt 64 ((2:Int) ^ s-1)).toNat:Nat)=_
 rw [BitVec.toNat_and,BitVec.toNat_ofInt,BitVec.toNat_ofInt,IntKind.wrap_i64]
 rw [show (((x:Int)%((2 ^ 64:Nat):Int)).toNat)=x by omega,show ((((2:Int) ^ s-1)%((2 ^ 64:Nat):Int)).toNat)=2 ^ s-1 by omega]
 rw [Nat.and_two_pow_sub_one_eq_mod,← e,← Int.natCast_emod]
 have:x%2 ^ s≤x:=Nat.mod_le _ _
 generalize x%2 ^ s=m at this
 omega
theorem RtsAt.empty {w:World} {l:List Rt} (h:RtsAt w Option.none l):l=[]:=by
 cases l with
 |nil=>rfl
 |cons z zs=>obtain ⟨b,off,e,_⟩:=h 0 (by simp);cases e
theorem RtsAt.cells {w:World} {b off k:Nat} {l:List Rt} (h:RtsAt w (some ⟨b,off,Option.none⟩) l) (hk:k<l.length):w.cell? ⟨b,off+k*3,Option.none⟩=some (.int .i64 (rtAt l k).net)∧w.cell? ⟨b,off+k*3+1,Option.none⟩=some (.int .i64 (rtAt l k).bits)∧w.cell? ⟨b,off+k*3+2,Option.none⟩=some (.int .i64 (rtAt l k).hop):=by
 obtain ⟨b',off',e,_,c⟩:=h k hk
 cases e
 exact c
def rtcells (l:List Rt):List Value:=l.flatMap Rt.cells
theorem rtcells_cons (r:Rt) (l:List Rt):rtcells (r :: l) = .int .i64 r.net :: .int .i64 r.bits :: .int .i64 r.hop :: rtcells l:=rfl
theorem rtcells_append (a b:List Rt):rtcells (a++b)=rtcells a++rtcells b:=by simp [rtcells]
theorem rtcells_length (l:List Rt):(rtcells l).length=l.length*3:=by
 induction l with
 |nil=>rfl
 |cons r l ih=>rw [rtcells_cons];simp [ih];omega
theorem rtcells_get (l:List Rt) (k:Nat) (hk:k<l.length):(rtcells l)[k*3]? = some (.int .i64 (rtAt l k).net)∧(rtcells l)[k*3+1]? = some (.int .i64 (rtAt l k).bits)∧(rtcells l)[k*3+2]? = some (.int .i64 (rtAt l k).hop):=by
 induction l generalizing k with
 |nil=>simp at hk
 |cons r l ih =>
  cases k with
  |zero=>simp [rtcells_cons,rtAt]
  |succ k =>
   have:=ih k (by simpa using hk)
   rw [show (k+1)*3=k*3+3 by omega]
   simpa [rtcells_cons,rtAt] using this
theorem rtcells_one (l:List Rt):∀ u∈rtcells l,u.oneCell'=true:=by
 intro u hu
 induction l with
 |nil=>simp [rtcells] at hu
 |cons r l ih =>
  rw [rtcells_cons] at hu
  simp only [List.mem_cons] at hu
  rcases hu with rfl|rfl|rfl|hu
  ·rfl
  ·rfl
  ·rfl
  ·exact ih hu
theorem rtcells_set (l:List Rt) (k:Nat) (r:Rt):(((rtcells l).set (k*3) (.int .i64 r.net)).set (k*3+1) (.int .i64 r.bits)).set (k*3+2) (.int .i64 r.hop)=rtcells (l.set k r):=by
 induction l generalizing k with
 |nil=>simp [rtcells]
 |cons x l ih =>
  cases k with
  |zero=>simp [rtcells_cons]
  |succ k =>
   rw [show (k+1)*3=k*3+3 by omega,List.set_cons_succ,rtcells_cons,rtcells_cons,← ih k]
   rfl
def RtRow (base:Nat) (w:World) (v:Value) (l:List Rt):Prop:=w.ownsRow base 132 3 v l.length (rtcells l)
theorem RtRow.carry {base:Nat} {w w':World} {v:Value} {l:List Rt} (h:RtRow base w v l) (g:∀ k,v.ownBlock=some k→k<w.heap.size→w'.heap[k]? = w.heap[k]?):RtRow base w' v l:=by
 refine ⟨h.1,h.2.imp id ?_⟩
 rintro ⟨g0,cap,cur,h1,h2,h3,h4⟩
 exact ⟨g0,cap,cur,h1,h2,by rw [g g0 (by rw [h1];rfl) (Array.getElem?_eq_some_iff.1 h3).1];exact h3,h4⟩
theorem RtRow.shape {base:Nat} {w:World} {v:Value} {l:List Rt} (h:RtRow base w v l):∃ a cap,v = .slice a l.length cap:=by
 rcases h.2 with ⟨rfl,hn⟩|⟨g,cap,cur,rfl,_⟩
 ·rw [hn];exact ⟨none,0,rfl⟩
 ·exact ⟨_,_,rfl⟩
theorem RtRow.cap {base:Nat} {w:World} {a:Option Addr} {c:Nat} {l:List Rt} (h:RtRow base w (.slice a l.length c) l):l.length≤c:=by
 rcases h.2 with ⟨e,hn⟩|⟨g',c',cur,e,_,_,h4,_⟩
 ·omega
 ·cases e;exact h4
theorem RtRow.nilCap {base:Nat} {w:World} {a:Option Addr} {c:Nat} {l:List Rt} (h:RtRow base w (.slice a l.length c) l):a=none→c=0:=by
 intro ha
 subst ha
 rcases h.2 with ⟨e,hn⟩|⟨g',c',cur,e,_⟩
 ·simpa using (Value.slice.inj e).2.2
 ·cases e
theorem RtRow.lt {base:Nat} {w:World} {v:Value} {l:List Rt} (h:RtRow base w v l):∀ k,v.ownBlock=some k→base≤k∧k<w.heap.size:=World.ownsRow.lt h
theorem RtRow.mono {base base':Nat} {w:World} {v:Value} {l:List Rt} (h:RtRow base w v l) (hb:base'≤base):RtRow base' w v l:=⟨h.1,h.2.imp id fun ⟨g,cap,cur,h1,h2,h3⟩=>⟨g,cap,cur,h1,Nat.le_trans hb h2,h3⟩⟩
theorem RtRow.at {base:Nat} {w:World} {a:Option Addr} {cap:Nat} {l:List Rt} (h:RtRow base w (.slice a l.length cap) l):RtsAt w a l:=by
 intro k hk
 rcases h.2 with ⟨_,hn⟩|⟨g,cap',cur,e,h2,h3,h4⟩
 ·omega
 ·obtain ⟨rfl,_,rfl⟩:a=some ⟨g,0,none⟩∧True∧cap=cap':=by simpa using e
  have hc:=World.ownsRow.cellAt (show w.ownsRow base 132 3 (.slice (some ⟨g,0,none⟩) l.length cap) l.length _ from h)
  obtain ⟨e0,e1,e2⟩:=rtcells_get l k hk
  exact ⟨g,0,rfl,(Array.getElem?_eq_some_iff.1 h3).1,by rw [Nat.zero_add,hc _ (by omega),e0],by rw [Nat.zero_add,hc _ (by omega),e1],by rw [Nat.zero_add,hc _ (by omega),e2]⟩
theorem RtRow.put {base:Nat} {w:World} {g cap n:Nat} {l:List Rt} (h:w.ownsRow base 132 3 (.slice (some ⟨g,0,none⟩) n cap) n (rtcells l)) (k:Nat) (r:Rt) :
 (((w.setCell ⟨g,k*3,none⟩ (.int .i64 r.net)).setCell ⟨g,k*3+1,none⟩ (.int .i64 r.bits)).setCell ⟨g,k*3+2,none⟩ (.int .i64 r.hop)).ownsRow base 132 3 (.slice (some ⟨g,0,none⟩) n cap) n (rtcells (l.set k r)):=by
 have h1:=(h.stored (k*3) (.int .i64 r.net)).1
 have h2:=(h1.stored (k*3+1) (.int .i64 r.bits)).1
 have h3:=(h2.stored (k*3+2) (.int .i64 r.hop)).1
 rw [rtcells_set] at h3
 exact h3
theorem rtInfo:(Tryz.prog.info? 132).map (fun i=>(i.zero,i.size,i.bytes))=some (some (.agg #[.int .i64 0,.int .i64 0,.int .i64 0]),3,24):=by kernel_rfl
theorem rtMade (n:Nat):(madeCells #[Value.int .i64 0,.int .i64 0,.int .i64 0] (n*3)).toList=rtcells (List.replicate n ⟨0,0,0⟩):=by
 apply List.ext_getElem?
 intro i
 by_cases hi:i<n*3
 ·obtain ⟨k,j,rfl,hj⟩:∃ k j,i=k*3+j∧j<3:=⟨i/3,i%3,by omega,Nat.mod_lt _ (by omega)⟩
  have hk:k<n:=by omega
  obtain ⟨e0,e1,e2⟩:=rtcells_get (List.replicate n ⟨0,0,0⟩) k (by simpa using hk)
  have hz:rtAt (List.replicate n ⟨0,0,0⟩) k=⟨0,0,0⟩:=by simp [rtAt,hk]
  rw [hz] at e0 e1 e2
  have hm:(k*3+j)%3=j:=by omega
  have hL:(madeCells #[Value.int .i64 0,.int .i64 0,.int .i64 0] (n*3)).toList[k*3+j]? = some (.int .i64 0):=by
   simp [madeCells,hi,hm]
   match j,hj with
   |0,_=>rfl
   |1,_=>rfl
   |2,_=>rfl
  rw [hL]
  match j,hj with
  |0,_=>exact e0.symm
  |1,_=>exact e1.symm
  |2,_=>exact e2.symm
 ·rw [List.getElem?_eq_none (by simp [madeCells];omega),List.getElem?_eq_none (by rw [rtcells_length];simp;omega)]
theorem rtTakeSet (l:List Rt) (n k:Nat) (hn:l.length=n) (hk:k<n):(l.take k++List.replicate (n-k) (⟨0,0,0⟩:Rt)).set k (rtAt l k)=l.take (k+1)++List.replicate (n-(k+1)) ⟨0,0,0⟩:=by
 subst hn
 rw [List.set_append_right _ _ (by simp;omega),List.take_succ_eq_append_getElem hk,rtAt_lt hk]
 simp only [List.length_take,Nat.min_eq_left (Nat.le_of_lt hk),Nat.sub_self]
 obtain ⟨m,hm⟩:∃ m,l.length-k=m+1:=⟨l.length-k-1,by omega⟩
 rw [hm,show l.length-(k+1)=m by omega,List.replicate_succ,List.set_cons_zero]
 simp only [List.append_assoc,List.cons_append,List.nil_append]
def RtIn (b t:Nat) (w:World) (v:Value) (l:List Rt):Prop:=SlIn b t w v l.length (rtcells l)
theorem rtcells_ne {l:List Rt} (h:0<l.length):rtcells l≠[]:=by
 intro e
 have:=rtcells_length l
 rw [e] at this
 simp at this
 omega
theorem RtsAt.of_in {b t:Nat} {w:World} {a:Option Addr} {cap:Nat} {l:List Rt} (h:RtIn b t w (.slice a l.length cap) l):RtsAt w a l:=by
 intro k hk
 obtain ⟨g,off,rfl,h1,h2,h3⟩:=SlIn.some h (rtcells_ne (by omega))
 have hl:=rtcells_length l
 obtain ⟨e0,e1,e2⟩:=rtcells_get l k hk
 refine ⟨g,off,rfl,by omega,?_,?_,?_⟩
 ·have:=(SlIn.cells h (k*3) (by omega)).1
  rw [e0] at this
  exact this
 ·have:=(SlIn.cells h (k*3+1) (by omega)).1
  rw [e1] at this
  exact this
 ·have:=(SlIn.cells h (k*3+2) (by omega)).1
  rw [e2] at this
  exact this
theorem RtIn.of_row {b t:Nat} {w:World} {v:Value} {l:List Rt} (h:RtRow b w v l) (ht:∀ k,v.ownBlock=some k→k<t) (hs:t≤w.heap.size):RtIn b t w v l:=SlIn.of_row h ht hs
def RtsV (w:World) (v:Value) (l:List Rt):Prop:=∃ a c,v = .slice a l.length c∧RtsAt w a l∧l.length≤c∧(a=none→c=0)
def RtsW (b t:Nat) (w:World) (v:Value) (l:List Rt):Prop:=RtIn b t w v l∧∃ a c,v = .slice a l.length c∧l.length≤c∧(a=none→c=0)
section
variable {b t:Nat} {w w':World} {v:Value} {l:List Rt}
theorem RtsW.at (h:RtsW b t w v l):RtsV w v l:=by
 obtain ⟨h1,a,c,rfl,h2⟩:=h
 exact ⟨a,c,rfl,RtsAt.of_in h1,h2⟩
theorem RtsV.below (h:RtsV w v l) (g:Bel w w'):RtsV w' v l:=by
 obtain ⟨a,c,e,h1,h2⟩:=h
 exact ⟨a,c,e,h1.below g,h2⟩
theorem RtsW.keep (h:RtsW b t w v l) (hs:w.heap.size≤w'.heap.size) (hk:∀ k,b≤k→k<t→w'.heap[k]? = w.heap[k]?):RtsW b t w' v l:=⟨SlIn.keep h.1 hs hk,h.2⟩
theorem RtsW.below (h:RtsW b t w v l) (g:Bel w w'):RtsW b t w' v l:=⟨SlIn.below h.1 g,h.2⟩
theorem RtsW.cells (h:RtsW b t w v l):∃ p q,v = .slice p l.length q:=by
 obtain ⟨_,a,c,e,_⟩:=h
 exact ⟨a,c,e⟩
theorem RtsW.of_row (h:RtRow b w v l):RtsW b w.heap.size w v l:=by
 refine ⟨RtIn.of_row h (fun k hk=>(h.lt k hk).2) nlr,?_⟩
 obtain ⟨a,c,e⟩:=h.shape
 subst e
 exact ⟨a,c,rfl,h.cap,h.nilCap⟩
end
structure Ru where
 id:Int
 prio:Int
 snet:Int
 sbits:Int
 dnet:Int
 dbits:Int
 proto:Int
 low:Int
 high:Int
 cls:Int
def Ru.val (r:Ru):Value:=.agg #[.int .i64 r.id,.int .i64 r.prio,.int .i64 r.snet,.int .i64 r.sbits,.int .i64 r.dnet,.int .i64 r.dbits,.int .i64 r.proto,.int .i64 r.low,.int .i64 r.high,.int .i64 r.cls]
def Ru.cells (r:Ru):List Value:=[.int .i64 r.id,.int .i64 r.prio,.int .i64 r.snet,.int .i64 r.sbits,.int .i64 r.dnet,.int .i64 r.dbits,.int .i64 r.proto,.int .i64 r.low,.int .i64 r.high,.int .i64 r.cls]
def ruAt (l:List Ru) (k:Nat):Ru:=l[k]?.getD ⟨0,0,0,0,0,0,0,0,0,0⟩
theorem ruAt_lt {l:List Ru} {k:Nat} (h:k<l.length):ruAt l k=l[k]:=by simp [ruAt,List.getElem?_eq_getElem h]
def RusAt (w:World) (a:Option Addr) (l:List Ru):Prop :=
 ∀ k,k<l.length→∃ b off,a=some ⟨b,off,none⟩∧b<w.heap.size∧w.cell? ⟨b,off+k*10,none⟩=some (.int .i64 (ruAt l k).id)∧w.cell? ⟨b,off+k*10+1,none⟩=some (.int .i64 (ruAt l k).prio)∧w.cell? ⟨b,off+k*10+2,none⟩=some (.int .i64 (ruAt l k).snet)∧w.cell? ⟨b,off+k*10+3,none⟩=some (.int .i64 (ruAt l k).sbits)∧w.cell? ⟨b,off+k*10+4,none⟩=some (.int .i64 (ruAt l k).dnet)∧w.cell? ⟨b,off+k*10+5,none⟩=some (.int .i64 (ruAt l k).dbits)∧w.cell? ⟨b,off+k*10+6,none⟩=some (.int .i64 (ruAt l k).proto)∧w.cell? ⟨b,off+k*10+7,none⟩=some (.int .i64 (ruAt l k).low)∧w.cell? ⟨b,off+k*10+8,none⟩=some (.int .i64 (ruAt l k).high)∧w.cell? ⟨b,off+k*10+9,none⟩=some (.int .i64 (ruAt l k).cls)
theorem RusAt.below {w w':World} {a:Option Addr} {l:List Ru} (h:RusAt w a l) (g:Bel w w'):RusAt w' a l:=by
 intro k hk
 obtain ⟨b,off,e,hb,c0,c1,c2,c3,c4,c5,c6,c7,c8,c9⟩:=h k hk
 exact ⟨b,off,e,Nat.lt_of_lt_of_le hb g.size,by rw [g.cell (p:=⟨b,off+k*10,none⟩) hb];exact c0,by rw [g.cell (p:=⟨b,off+k*10+1,none⟩) hb];exact c1,by rw [g.cell (p:=⟨b,off+k*10+2,none⟩) hb];exact c2,by rw [g.cell (p:=⟨b,off+k*10+3,none⟩) hb];exact c3,by rw [g.cell (p:=⟨b,off+k*10+4,none⟩) hb];exact c4,by rw [g.cell (p:=⟨b,off+k*10+5,none⟩) hb];exact c5,by rw [g.cell (p:=⟨b,off+k*10+6,none⟩) hb];exact c6,by rw [g.cell (p:=⟨b,off+k*10+7,none⟩) hb];exact c7,by rw [g.cell (p:=⟨b,off+k*10+8,none⟩) hb];exact c8,by rw [g.cell (p:=⟨b,off+k*10+9,none⟩) hb];exact c9⟩
theorem RusAt.alloc {w:World} {a:Option Addr} {l:List Ru} (h:RusAt w a l) (o:Obj):RusAt (w.alloc o) a l :=
 h.below ((Below.refl _ _).alloc nlr _)
theorem RusAt.drew {w:World} {a:Option Addr} {l:List Ru} (h:RusAt w a l):RusAt w.drew a l:=h.below (Below.refl _ _).drew
theorem RusAt.nil (w:World) (a:Option Addr):RusAt w a []:=by intro k hk;simp at hk
theorem RusAt.empty {w:World} {l:List Ru} (h:RusAt w none l):l=[]:=by
 cases l with
 |nil=>rfl
 |cons z zs=>obtain ⟨b,off,e,_⟩:=h 0 (by simp);cases e
theorem RusAt.cells {w:World} {b off k:Nat} {l:List Ru} (h:RusAt w (some ⟨b,off,none⟩) l) (hk:k<l.length):w.cell? ⟨b,off+k*10,none⟩=some (.int .i64 (ruAt l k).id)∧w.cell? ⟨b,off+k*10+1,none⟩=some (.int .i64 (ruAt l k).prio)∧w.cell? ⟨b,off+k*10+2,none⟩=some (.int .i64 (ruAt l k).snet)∧w.cell? ⟨b,off+k*10+3,none⟩=some (.int .i64 (ruAt l k).sbits)∧w.cell? ⟨b,off+k*10+4,none⟩=some (.int .i64 (ruAt l k).dnet)∧w.cell? ⟨b,off+k*10+5,none⟩=some (.int .i64 (ruAt l k).dbits)∧w.cell? ⟨b,off+k*10+6,none⟩=some (.int .i64 (ruAt l k).proto)∧w.cell? ⟨b,off+k*10+7,none⟩=some (.int .i64 (ruAt l k).low)∧w.cell? ⟨b,off+k*10+8,none⟩=some (.int .i64 (ruAt l k).high)∧w.cell? ⟨b,off+k*10+9,none⟩=some (.int .i64 (ruAt l k).cls):=by
 obtain ⟨b',off',e,_,c⟩:=h k hk
 cases e
 exact c
def rucells (l:List Ru):List Value:=l.flatMap Ru.cells
theorem rucells_cons (r:Ru) (l:List Ru):rucells (r :: l) = .int .i64 r.id :: .int .i64 r.prio :: .int .i64 r.snet :: .int .i64 r.sbits :: .int .i64 r.dnet :: .int .i64 r.dbits :: .int .i64 r.proto :: .int .i64 r.low :: .int .i64 r.high :: .int .i64 r.cls :: rucells l:=rfl
theorem rucells_append (a b:List Ru):rucells (a++b)=rucells a++rucells b:=by simp [rucells]
theorem rucells_length (l:List Ru):(rucells l).length=l.length*10:=by
 induction l with
 |nil=>rfl
 |cons r l ih=>rw [rucells_cons];simp [ih];omega
theorem rucells_get (l:List Ru) (k:Nat) (hk:k<l.length):(rucells l)[k*10]? = some (.int .i64 (ruAt l k).id)∧(rucells l)[k*10+1]? = some (.int .i64 (ruAt l k).prio)∧(rucells l)[k*10+2]? = some (.int .i64 (ruAt l k).snet)∧(rucells l)[k*10+3]? = some (.int .i64 (ruAt l k).sbits)∧(rucells l)[k*10+4]? = some (.int .i64 (ruAt l k).dnet)∧(rucells l)[k*10+5]? = some (.int .i64 (ruAt l k).dbits)∧(rucells l)[k*10+6]? = some (.int .i64 (ruAt l k).proto)∧(rucells l)[k*10+7]? = some (.int .i64 (ruAt l k).low)∧(rucells l)[k*10+8]? = some (.int .i64 (ruAt l k).high)∧(rucells l)[k*10+9]? = some (.int .i64 (ruAt l k).cls):=by
 induction l generalizing k with
 |nil=>simp at hk
 |cons r l ih =>
  cases k with
  |zero=>simp [rucells_cons,ruAt]
  |succ k =>
   have:=ih k (by simpa using hk)
   rw [show (k+1)*10=k*10+10 by omega]
   simpa [rucells_cons,ruAt] using this
theorem rucells_one (l:List Ru):∀ u∈rucells l,u.oneCell'=true:=by
 intro u hu
 induction l with
 |nil=>simp [rucells] at hu
 |cons r l ih =>
  rw [rucells_cons] at hu
  simp only [List.mem_cons] at hu
  rcases hu with rfl|rfl|rfl|rfl|rfl|rfl|rfl|rfl|rfl|rfl|hu
  ·rfl
  ·rfl
  ·rfl
  ·rfl
  ·rfl
  ·rfl
  ·rfl
  ·rfl
  ·rfl
  ·rfl
  ·exact ih hu
theorem rucells_set (l:List Ru) (k:Nat) (r:Ru):((((((((((rucells l).set (k*10) (.int .i64 r.id)).set (k*10+1) (.int .i64 r.prio)).set (k*10+2) (.int .i64 r.snet)).set (k*10+3) (.int .i64 r.sbits)).set (k*10+4) (.int .i64 r.dnet)).set (k*10+5) (.int .i64 r.dbits)).set (k*10+6) (.int .i64 r.proto)).set (k*10+7) (.int .i64 r.low)).set (k*10+8) (.int .i64 r.high)).set (k*10+9) (.int .i64 r.cls)=rucells (l.set k r):=by
 induction l generalizing k with
 |nil=>simp [rucells]
 |cons x l ih =>
  cases k with
  |zero=>simp [rucells_cons]
  |succ k =>
   rw [show (k+1)*10=k*10+10 by omega,List.set_cons_succ,rucells_cons,rucells_cons,← ih k]
   rfl
def RuRow (base:Nat) (w:World) (v:Value) (l:List Ru):Prop:=w.ownsRow base 136 10 v l.length (rucells l)
theorem RuRow.carry {base:Nat} {w w':World} {v:Value} {l:List Ru} (h:RuRow base w v l) (g:∀ k,v.ownBlock=some k→k<w.heap.size→w'.heap[k]? = w.heap[k]?):RuRow base w' v l:=by
 refine ⟨h.1,h.2.imp id ?_⟩
 rintro ⟨g0,cap,cur,h1,h2,h3,h4⟩
 exact ⟨g0,cap,cur,h1,h2,by rw [g g0 (by rw [h1];rfl) (Array.getElem?_eq_some_iff.1 h3).1];exact h3,h4⟩
theorem RuRow.shape {base:Nat} {w:World} {v:Value} {l:List Ru} (h:RuRow base w v l):∃ a cap,v = .slice a l.length cap:=by
 rcases h.2 with ⟨rfl,hn⟩|⟨g,cap,cur,rfl,_⟩
 ·rw [hn];exact ⟨none,0,rfl⟩
 ·exact ⟨_,_,rfl⟩
theorem RuRow.cap {base:Nat} {w:World} {a:Option Addr} {c:Nat} {l:List Ru} (h:RuRow base w (.slice a l.length c) l):l.length≤c:=by
 rcases h.2 with ⟨e,hn⟩|⟨g',c',cur,e,_,_,h4,_⟩
 ·omega
 ·cases e;exact h4
theorem RuRow.nilCap {base:Nat} {w:World} {a:Option Addr} {c:Nat} {l:List Ru} (h:RuRow base w (.slice a l.length c) l):a=none→c=0:=by
 intro ha
 subst ha
 rcases h.2 with ⟨e,hn⟩|⟨g',c',cur,e,_⟩
 ·simpa using (Value.slice.inj e).2.2
 ·cases e
theorem RuRow.lt {base:Nat} {w:World} {v:Value} {l:List Ru} (h:RuRow base w v l):∀ k,v.ownBlock=some k→base≤k∧k<w.heap.size:=World.ownsRow.lt h
theorem RuRow.mono {base base':Nat} {w:World} {v:Value} {l:List Ru} (h:RuRow base w v l) (hb:base'≤base):RuRow base' w v l:=⟨h.1,h.2.imp id fun ⟨g,cap,cur,h1,h2,h3⟩=>⟨g,cap,cur,h1,Nat.le_trans hb h2,h3⟩⟩
theorem RuRow.at {base:Nat} {w:World} {a:Option Addr} {cap:Nat} {l:List Ru} (h:RuRow base w (.slice a l.length cap) l):RusAt w a l:=by
 intro k hk
 rcases h.2 with ⟨_,hn⟩|⟨g,cap',cur,e,h2,h3,h4⟩
 ·omega
 ·obtain ⟨rfl,_,rfl⟩:a=some ⟨g,0,none⟩∧True∧cap=cap':=by simpa using e
  have hc:=World.ownsRow.cellAt (show w.ownsRow base 136 10 (.slice (some ⟨g,0,none⟩) l.length cap) l.length _ from h)
  obtain ⟨e0,e1,e2,e3,e4,e5,e6,e7,e8,e9⟩:=rucells_get l k hk
  exact ⟨g,0,rfl,(Array.getElem?_eq_some_iff.1 h3).1,by rw [Nat.zero_add,hc _ (by omega),e0],by rw [Nat.zero_add,hc _ (by omega),e1],by rw [Nat.zero_add,hc _ (by omega),e2],by rw [Nat.zero_add,hc _ (by omega),e3],by rw [Nat.zero_add,hc _ (by omega),e4],by rw [Nat.zero_add,hc _ (by omega),e5],by rw [Nat.zero_add,hc _ (by omega),e6],by rw [Nat.zero_add,hc _ (by omega),e7],by rw [Nat.zero_add,hc _ (by omega),e8],by rw [Nat.zero_add,hc _ (by omega),e9]⟩
theorem RuRow.put {base:Nat} {w:World} {g cap n:Nat} {l:List Ru} (h:w.ownsRow base 136 10 (.slice (some ⟨g,0,none⟩) n cap) n (rucells l)) (k:Nat) (r:Ru) :
 ((((((((((w.setCell ⟨g,k*10,none⟩ (.int .i64 r.id)).setCell ⟨g,k*10+1,none⟩ (.int .i64 r.prio)).setCell ⟨g,k*10+2,none⟩ (.int .i64 r.snet)).setCell ⟨g,k*10+3,none⟩ (.int .i64 r.sbits)).setCell ⟨g,k*10+4,none⟩ (.int .i64 r.dnet)).setCell ⟨g,k*10+5,none⟩ (.int .i64 r.dbits)).setCell ⟨g,k*10+6,none⟩ (.int .i64 r.proto)).setCell ⟨g,k*10+7,none⟩ (.int .i64 r.low)).setCell ⟨g,k*10+8,none⟩ (.int .i64 r.high)).setCell ⟨g,k*10+9,none⟩ (.int .i64 r.cls)).ownsRow base 136 10 (.slice (some ⟨g,0,none⟩) n cap) n (rucells (l.set k r)):=by
 have h1:=(h.stored (k*10) (.int .i64 r.id)).1
 have h2:=(h1.stored (k*10+1) (.int .i64 r.prio)).1
 have h3:=(h2.stored (k*10+2) (.int .i64 r.snet)).1
 have h4:=(h3.stored (k*10+3) (.int .i64 r.sbits)).1
 have h5:=(h4.stored (k*10+4) (.int .i64 r.dnet)).1
 have h6:=(h5.stored (k*10+5) (.int .i64 r.dbits)).1
 have h7:=(h6.stored (k*10+6) (.int .i64 r.proto)).1
 have h8:=(h7.stored (k*10+7) (.int .i64 r.low)).1
 have h9:=(h8.stored (k*10+8) (.int .i64 r.high)).1
 have h10:=(h9.stored (k*10+9) (.int .i64 r.cls)).1
 rw [rucells_set] at h10
 exact h10
theorem ruInfo:(Tryz.prog.info? 136).map (fun i=>(i.zero,i.size,i.bytes))=some (some (.agg #[.int .i64 0,.int .i64 0,.int .i64 0,.int .i64 0,.int .i64 0,.int .i64 0,.int .i64 0,.int .i64 0,.int .i64 0,.int .i64 0]),10,80):=by kernel_rfl
theorem ruMade (n:Nat):(madeCells #[Value.int .i64 0,.int .i64 0,.int .i64 0,.int .i64 0,.int .i64 0,.int .i64 0,.int .i64 0,.int .i64 0,.int .i64 0,.int .i64 0] (n*10)).toList=rucells (List.replicate n ⟨0,0,0,0,0,0,0,0,0,0⟩):=by
 apply List.ext_getElem?
 intro i
 by_cases hi:i<n*10
 ·obtain ⟨k,j,rfl,hj⟩:∃ k j,i=k*10+j∧j<10:=⟨i/10,i%10,by omega,Nat.mod_lt _ (by omega)⟩
  have hk:k<n:=by omega
  obtain ⟨e0,e1,e2,e3,e4,e5,e6,e7,e8,e9⟩:=rucells_get (List.replicate n ⟨0,0,0,0,0,0,0,0,0,0⟩) k (by simpa using hk)
  have hz:ruAt (List.replicate n ⟨0,0,0,0,0,0,0,0,0,0⟩) k=⟨0,0,0,0,0,0,0,0,0,0⟩:=by simp [ruAt,hk]
  rw [hz] at e0 e1 e2 e3 e4 e5 e6 e7 e8 e9
  have hm:(k*10+j)%10=j:=by omega
  have hL:(madeCells #[Value.int .i64 0,.int .i64 0,.int .i64 0,.int .i64 0,.int .i64 0,.int .i64 0,.int .i64 0,.int .i64 0,.int .i64 0,.int .i64 0] (n*10)).toList[k*10+j]? = some (.int .i64 0):=by
   simp [madeCells,hi,hm]
   match j,hj with
   |0,_=>rfl
   |1,_=>rfl
   |2,_=>rfl
   |3,_=>rfl
   |4,_=>rfl
   |5,_=>rfl
   |6,_=>rfl
   |7,_=>rfl
   |8,_=>rfl
   |9,_=>rfl
  rw [hL]
  match j,hj with
  |0,_=>exact e0.symm
  |1,_=>exact e1.symm
  |2,_=>exact e2.symm
  |3,_=>exact e3.symm
  |4,_=>exact e4.symm
  |5,_=>exact e5.symm
  |6,_=>exact e6.symm
  |7,_=>exact e7.symm
  |8,_=>exact e8.symm
  |9,_=>exact e9.symm
 ·rw [List.getElem?_eq_none (by simp [madeCells];omega),List.getElem?_eq_none (by rw [rucells_length];simp;omega)]
theorem ruTakeSet (l:List Ru) (n k:Nat) (hn:l.length=n) (hk:k<n):(l.take k++List.replicate (n-k) (⟨0,0,0,0,0,0,0,0,0,0⟩:Ru)).set k (ruAt l k)=l.take (k+1)++List.replicate (n-(k+1)) ⟨0,0,0,0,0,0,0,0,0,0⟩:=by
 subst hn
 rw [List.set_append_right _ _ (by simp;omega),List.take_succ_eq_append_getElem hk,ruAt_lt hk]
 simp only [List.length_take,Nat.min_eq_left (Nat.le_of_lt hk),Nat.sub_self]
 obtain ⟨m,hm⟩:∃ m,l.length-k=m+1:=⟨l.length-k-1,by omega⟩
 rw [hm,show l.length-(k+1)=m by omega,List.replicate_succ,List.set_cons_zero]
 simp only [List.append_assoc,List.cons_append,List.nil_append]
def RuIn (b t:Nat) (w:World) (v:Value) (l:List Ru):Prop:=SlIn b t w v l.length (rucells l)
theorem rucells_ne {l:List Ru} (h:0<l.length):rucells l≠[]:=by
 intro e
 have:=rucells_length l
 rw [e] at this
 simp at this
 omega
theorem RusAt.of_in {b t:Nat} {w:World} {a:Option Addr} {cap:Nat} {l:List Ru} (h:RuIn b t w (.slice a l.length cap) l):RusAt w a l:=by
 intro k hk
 obtain ⟨g,off,rfl,h1,h2,h3⟩:=SlIn.some h (rucells_ne (by omega))
 have hl:=rucells_length l
 obtain ⟨e0,e1,e2,e3,e4,e5,e6,e7,e8,e9⟩:=rucells_get l k hk
 refine ⟨g,off,rfl,by omega,?_,?_,?_,?_,?_,?_,?_,?_,?_,?_⟩
 ·have:=(SlIn.cells h (k*10) (by omega)).1
  rw [e0] at this
  exact this
 ·have:=(SlIn.cells h (k*10+1) (by omega)).1
  rw [e1] at this
  exact this
 ·have:=(SlIn.cells h (k*10+2) (by omega)).1
  rw [e2] at this
  exact this
 ·have:=(SlIn.cells h (k*10+3) (by omega)).1
  rw [e3] at this
  exact this
 ·have:=(SlIn.cells h (k*10+4) (by omega)).1
  rw [e4] at this
  exact this
 ·have:=(SlIn.cells h (k*10+5) (by omega)).1
  rw [e5] at this
  exact this
 ·have:=(SlIn.cells h (k*10+6) (by omega)).1
  rw [e6] at this
  exact this
 ·have:=(SlIn.cells h (k*10+7) (by omega)).1
  rw [e7] at this
  exact this
 ·have:=(SlIn.cells h (k*10+8) (by omega)).1
  rw [e8] at this
  exact this
 ·have:=(SlIn.cells h (k*10+9) (by omega)).1
  rw [e9] at this
  exact this
theorem RuIn.of_row {b t:Nat} {w:World} {v:Value} {l:List Ru} (h:RuRow b w v l) (ht:∀ k,v.ownBlock=some k→k<t) (hs:t≤w.heap.size):RuIn b t w v l:=SlIn.of_row h ht hs
def RusV (w:World) (v:Value) (l:List Ru):Prop:=∃ a c,v = .slice a l.length c∧RusAt w a l∧l.length≤c∧(a=none→c=0)
def RusW (b t:Nat) (w:World) (v:Value) (l:List Ru):Prop:=RuIn b t w v l∧∃ a c,v = .slice a l.length c∧l.length≤c∧(a=none→c=0)
section
variable {b t:Nat} {w w':World} {v:Value} {l:List Ru}
theorem RusW.at (h:RusW b t w v l):RusV w v l:=by
 obtain ⟨h1,a,c,rfl,h2⟩:=h
 exact ⟨a,c,rfl,RusAt.of_in h1,h2⟩
theorem RusV.below (h:RusV w v l) (g:Bel w w'):RusV w' v l:=by
 obtain ⟨a,c,e,h1,h2⟩:=h
 exact ⟨a,c,e,h1.below g,h2⟩
theorem RusW.keep (h:RusW b t w v l) (hs:w.heap.size≤w'.heap.size) (hk:∀ k,b≤k→k<t→w'.heap[k]? = w.heap[k]?):RusW b t w' v l:=⟨SlIn.keep h.1 hs hk,h.2⟩
theorem RusW.below (h:RusW b t w v l) (g:Bel w w'):RusW b t w' v l:=⟨SlIn.below h.1 g,h.2⟩
theorem RusW.cells (h:RusW b t w v l):∃ p q,v = .slice p l.length q:=by
 obtain ⟨_,a,c,e,_⟩:=h
 exact ⟨a,c,e⟩
theorem RusW.of_row (h:RuRow b w v l):RusW b w.heap.size w v l:=by
 refine ⟨RuIn.of_row h (fun k hk=>(h.lt k hk).2) nlr,?_⟩
 obtain ⟨a,c,e⟩:=h.shape
 subst e
 exact ⟨a,c,rfl,h.cap,h.nilCap⟩
end
structure Pz where
 rate:Int
 burst:Int
 level:Int
 tm:Int
def Pz.val (r:Pz):Value:=.agg #[.int .i64 r.rate,.int .i64 r.burst,.int .i64 r.level,.int .i64 r.tm]
def Pz.cells (r:Pz):List Value:=[.int .i64 r.rate,.int .i64 r.burst,.int .i64 r.level,.int .i64 r.tm]
structure Nd where
 up:Int
 pz:Pz
def Nd.val (r:Nd):Value:=.agg #[.int .i64 r.up,.int .i64 r.pz.rate,.int .i64 r.pz.burst,.int .i64 r.pz.level,.int .i64 r.pz.tm]
def Nd.cells (r:Nd):List Value:=[.int .i64 r.up,.int .i64 r.pz.rate,.int .i64 r.pz.burst,.int .i64 r.pz.level,.int .i64 r.pz.tm]
def ndAt (l:List Nd) (k:Nat):Nd:=l[k]?.getD ⟨0,0,0,0,0⟩
theorem ndAt_lt {l:List Nd} {k:Nat} (h:k<l.length):ndAt l k=l[k]:=by simp [ndAt,List.getElem?_eq_getElem h]
def NdsAt (w:World) (a:Option Addr) (l:List Nd):Prop :=
 ∀ k,k<l.length→∃ b off,a=some ⟨b,off,none⟩∧b<w.heap.size∧w.cell? ⟨b,off+k*5,none⟩=some (.int .i64 (ndAt l k).up)∧w.cell? ⟨b,off+k*5+1,none⟩=some (.int .i64 (ndAt l k).pz.rate)∧w.cell? ⟨b,off+k*5+2,none⟩=some (.int .i64 (ndAt l k).pz.burst)∧w.cell? ⟨b,off+k*5+3,none⟩=some (.int .i64 (ndAt l k).pz.level)∧w.cell? ⟨b,off+k*5+4,none⟩=some (.int .i64 (ndAt l k).pz.tm)
theorem NdsAt.below {w w':World} {a:Option Addr} {l:List Nd} (h:NdsAt w a l) (g:Bel w w'):NdsAt w' a l:=by
 intro k hk
 obtain ⟨b,off,e,hb,c0,c1,c2,c3,c4⟩:=h k hk
 exact ⟨b,off,e,Nat.lt_of_lt_of_le hb g.size,by rw [g.cell (p:=⟨b,off+k*5,none⟩) hb];exact c0,by rw [g.cell (p:=⟨b,off+k*5+1,none⟩) hb];exact c1,by rw [g.cell (p:=⟨b,off+k*5+2,none⟩) hb];exact c2,by rw [g.cell (p:=⟨b,off+k*5+3,none⟩) hb];exact c3,by rw [g.cell (p:=⟨b,off+k*5+4,none⟩) hb];exact c4⟩
theorem NdsAt.alloc {w:World} {a:Option Addr} {l:List Nd} (h:NdsAt w a l) (o:Obj):NdsAt (w.alloc o) a l :=
 h.below ((Below.refl _ _).alloc nlr _)
theorem NdsAt.nil (w:World) (a:Option Addr):NdsAt w a []:=by intro k hk;simp at hk
theorem NdsAt.empty {w:World} {l:List Nd} (h:NdsAt w none l):l=[]:=by
 cases l with
 |nil=>rfl
 |cons z zs=>obtain ⟨b,off,e,_⟩:=h 0 (by simp);cases e
theorem NdsAt.cells {w:World} {b off k:Nat} {l:List Nd} (h:NdsAt w (some ⟨b,off,none⟩) l) (hk:k<l.length):w.cell? ⟨b,off+k*5,none⟩=some (.int .i64 (ndAt l k).up)∧w.cell? ⟨b,off+k*5+1,none⟩=some (.int .i64 (ndAt l k).pz.rate)∧w.cell? ⟨b,off+k*5+2,none⟩=some (.int .i64 (ndAt l k).pz.burst)∧w.cell? ⟨b,off+k*5+3,none⟩=some (.int .i64 (ndAt l k).pz.level)∧w.cell? ⟨b,off+k*5+4,none⟩=some (.int .i64 (ndAt l k).pz.tm):=by
 obtain ⟨b',off',e,_,c⟩:=h k hk
 cases e
 exact c
def ndcells (l:List Nd):List Value:=l.flatMap Nd.cells
theorem ndcells_cons (r:Nd) (l:List Nd):ndcells (r :: l) = .int .i64 r.up :: .int .i64 r.pz.rate :: .int .i64 r.pz.burst :: .int .i64 r.pz.level :: .int .i64 r.pz.tm :: ndcells l:=rfl
theorem ndcells_append (a b:List Nd):ndcells (a++b)=ndcells a++ndcells b:=by simp [ndcells]
theorem ndcells_length (l:List Nd):(ndcells l).length=l.length*5:=by
 induction l with
 |nil=>rfl
 |cons r l ih=>rw [ndcells_cons];simp [ih];omega
theorem ndcells_get (l:List Nd) (k:Nat) (hk:k<l.length):(ndcells l)[k*5]? = some (.int .i64 (ndAt l k).up)∧(ndcells l)[k*5+1]? = some (.int .i64 (ndAt l k).pz.rate)∧(ndcells l)[k*5+2]? = some (.int .i64 (ndAt l k).pz.burst)∧(ndcells l)[k*5+3]? = some (.int .i64 (ndAt l k).pz.level)∧(ndcells l)[k*5+4]? = some (.int .i64 (ndAt l k).pz.tm):=by
 induction l generalizing k with
 |nil=>simp at hk
 |cons r l ih =>
  cases k with
  |zero=>simp [ndcells_cons,ndAt]
  |succ k =>
   have:=ih k (by simpa using hk)
   rw [show (k+1)*5=k*5+5 by omega]
   simpa [ndcells_cons,ndAt] using this
theorem ndcells_one (l:List Nd):∀ u∈ndcells l,u.oneCell'=true:=by
 intro u hu
 induction l with
 |nil=>simp [ndcells] at hu
 |cons r l ih =>
  rw [ndcells_cons] at hu
  simp only [List.mem_cons] at hu
  rcases hu with rfl|rfl|rfl|rfl|rfl|hu
  ·rfl
  ·rfl
  ·rfl
  ·rfl
  ·rfl
  ·exact ih hu
theorem ndcells_set (l:List Nd) (k:Nat) (r:Nd):(((((ndcells l).set (k*5) (.int .i64 r.up)).set (k*5+1) (.int .i64 r.pz.rate)).set (k*5+2) (.int .i64 r.pz.burst)).set (k*5+3) (.int .i64 r.pz.level)).set (k*5+4) (.int .i64 r.pz.tm)=ndcells (l.set k r):=by
 induction l generalizing k with
 |nil=>simp [ndcells]
 |cons x l ih =>
  cases k with
  |zero=>simp [ndcells_cons]
  |succ k =>
   rw [show (k+1)*5=k*5+5 by omega,List.set_cons_succ,ndcells_cons,ndcells_cons,← ih k]
   rfl
def NdRow (base:Nat) (w:World) (v:Value) (l:List Nd):Prop:=w.ownsRow base 130 5 v l.length (ndcells l)
theorem NdRow.carry {base:Nat} {w w':World} {v:Value} {l:List Nd} (h:NdRow base w v l) (g:∀ k,v.ownBlock=some k→k<w.heap.size→w'.heap[k]? = w.heap[k]?):NdRow base w' v l:=by
 refine ⟨h.1,h.2.imp id ?_⟩
 rintro ⟨g0,cap,cur,h1,h2,h3,h4⟩
 exact ⟨g0,cap,cur,h1,h2,by rw [g g0 (by rw [h1];rfl) (Array.getElem?_eq_some_iff.1 h3).1];exact h3,h4⟩
theorem NdRow.below {base n:Nat} {w w':World} {v:Value} {l:List Nd} (h:NdRow base w v l) (hn:∀ k,v.ownBlock=some k→k<n) (g:Below n w w'):NdRow base w' v l :=
 h.carry fun k hk _=>g.block k (hn k hk)
theorem NdRow.shape {base:Nat} {w:World} {v:Value} {l:List Nd} (h:NdRow base w v l):∃ a cap,v = .slice a l.length cap:=by
 rcases h.2 with ⟨rfl,hn⟩|⟨g,cap,cur,rfl,_⟩
 ·rw [hn];exact ⟨none,0,rfl⟩
 ·exact ⟨_,_,rfl⟩
theorem NdRow.cap {base:Nat} {w:World} {a:Option Addr} {c:Nat} {l:List Nd} (h:NdRow base w (.slice a l.length c) l):l.length≤c:=by
 rcases h.2 with ⟨e,hn⟩|⟨g',c',cur,e,_,_,h4,_⟩
 ·omega
 ·cases e;exact h4
theorem NdRow.nilCap {base:Nat} {w:World} {a:Option Addr} {c:Nat} {l:List Nd} (h:NdRow base w (.slice a l.length c) l):a=none→c=0:=by
 intro ha
 subst ha
 rcases h.2 with ⟨e,hn⟩|⟨g',c',cur,e,_⟩
 ·simpa using (Value.slice.inj e).2.2
 ·cases e
theorem NdRow.lt {base:Nat} {w:World} {v:Value} {l:List Nd} (h:NdRow base w v l):∀ k,v.ownBlock=some k→base≤k∧k<w.heap.size:=World.ownsRow.lt h
theorem NdRow.drew {base:Nat} {w:World} {v:Value} {l:List Nd} (h:NdRow base w v l):NdRow base w.drew v l:=h
theorem NdRow.mono {base base':Nat} {w:World} {v:Value} {l:List Nd} (h:NdRow base w v l) (hb:base'≤base):NdRow base' w v l:=⟨h.1,h.2.imp id fun ⟨g,cap,cur,h1,h2,h3⟩=>⟨g,cap,cur,h1,Nat.le_trans hb h2,h3⟩⟩
theorem NdRow.at {base:Nat} {w:World} {a:Option Addr} {cap:Nat} {l:List Nd} (h:NdRow base w (.slice a l.length cap) l):NdsAt w a l:=by
 intro k hk
 rcases h.2 with ⟨_,hn⟩|⟨g,cap',cur,e,h2,h3,h4⟩
 ·omega
 ·obtain ⟨rfl,_,rfl⟩:a=some ⟨g,0,none⟩∧True∧cap=cap':=by simpa using e
  have hc:=World.ownsRow.cellAt (show w.ownsRow base 130 5 (.slice (some ⟨g,0,none⟩) l.length cap) l.length _ from h)
  obtain ⟨e0,e1,e2,e3,e4⟩:=ndcells_get l k hk
  exact ⟨g,0,rfl,(Array.getElem?_eq_some_iff.1 h3).1,by rw [Nat.zero_add,hc _ (by omega),e0],by rw [Nat.zero_add,hc _ (by omega),e1],by rw [Nat.zero_add,hc _ (by omega),e2],by rw [Nat.zero_add,hc _ (by omega),e3],by rw [Nat.zero_add,hc _ (by omega),e4]⟩
theorem NdRow.put {base:Nat} {w:World} {g cap n:Nat} {l:List Nd} (h:w.ownsRow base 130 5 (.slice (some ⟨g,0,none⟩) n cap) n (ndcells l)) (k:Nat) (r:Nd) :
 (((((w.setCell ⟨g,k*5,none⟩ (.int .i64 r.up)).setCell ⟨g,k*5+1,none⟩ (.int .i64 r.pz.rate)).setCell ⟨g,k*5+2,none⟩ (.int .i64 r.pz.burst)).setCell ⟨g,k*5+3,none⟩ (.int .i64 r.pz.level)).setCell ⟨g,k*5+4,none⟩ (.int .i64 r.pz.tm)).ownsRow base 130 5 (.slice (some ⟨g,0,none⟩) n cap) n (ndcells (l.set k r)):=by
 have h1:=(h.stored (k*5) (.int .i64 r.up)).1
 have h2:=(h1.stored (k*5+1) (.int .i64 r.pz.rate)).1
 have h3:=(h2.stored (k*5+2) (.int .i64 r.pz.burst)).1
 have h4:=(h3.stored (k*5+3) (.int .i64 r.pz.level)).1
 have h5:=(h4.stored (k*5+4) (.int .i64 r.pz.tm)).1
 rw [ndcells_set] at h5
 exact h5
theorem ndInfo:(Tryz.prog.info? 130).map (fun i=>(i.zero,i.size,i.bytes))=some (some (.agg #[.int .i64 0,.int .i64 0,.int .i64 0,.int .i64 0,.int .i64 0]),5,40):=by kernel_rfl
theorem ndMade (n:Nat):(madeCells #[Value.int .i64 0,.int .i64 0,.int .i64 0,.int .i64 0,.int .i64 0] (n*5)).toList=ndcells (List.replicate n ⟨0,0,0,0,0⟩):=by
 apply List.ext_getElem?
 intro i
 by_cases hi:i<n*5
 ·obtain ⟨k,j,rfl,hj⟩:∃ k j,i=k*5+j∧j<5:=⟨i/5,i%5,by omega,Nat.mod_lt _ (by omega)⟩
  have hk:k<n:=by omega
  obtain ⟨e0,e1,e2,e3,e4⟩:=ndcells_get (List.replicate n ⟨0,0,0,0,0⟩) k (by simpa using hk)
  have hz:ndAt (List.replicate n ⟨0,0,0,0,0⟩) k=⟨0,0,0,0,0⟩:=by simp [ndAt,hk]
  rw [hz] at e0 e1 e2 e3 e4
  have hm:(k*5+j)%5=j:=by omega
  have hL:(madeCells #[Value.int .i64 0,.int .i64 0,.int .i64 0,.int .i64 0,.int .i64 0] (n*5)).toList[k*5+j]? = some (.int .i64 0):=by
   simp [madeCells,hi,hm]
   match j,hj with
   |0,_=>rfl
   |1,_=>rfl
   |2,_=>rfl
   |3,_=>rfl
   |4,_=>rfl
  rw [hL]
  match j,hj with
  |0,_=>exact e0.symm
  |1,_=>exact e1.symm
  |2,_=>exact e2.symm
  |3,_=>exact e3.symm
  |4,_=>exact e4.symm
 ·rw [List.getElem?_eq_none (by simp [madeCells];omega),List.getElem?_eq_none (by rw [ndcells_length];simp;omega)]
theorem ndTakeSet (l:List Nd) (n k:Nat) (hn:l.length=n) (hk:k<n):(l.take k++List.replicate (n-k) (⟨0,0,0,0,0⟩:Nd)).set k (ndAt l k)=l.take (k+1)++List.replicate (n-(k+1)) ⟨0,0,0,0,0⟩:=by
 subst hn
 rw [List.set_append_right _ _ (by simp;omega),List.take_succ_eq_append_getElem hk,ndAt_lt hk]
 simp only [List.length_take,Nat.min_eq_left (Nat.le_of_lt hk),Nat.sub_self]
 obtain ⟨m,hm⟩:∃ m,l.length-k=m+1:=⟨l.length-k-1,by omega⟩
 rw [hm,show l.length-(k+1)=m by omega,List.replicate_succ,List.set_cons_zero]
 simp only [List.append_assoc,List.cons_append,List.nil_append]
theorem ndOnes (v0 v1 v2 v3 v4:Int):(#[Value.int .i64 v0,Value.int .i64 v1,Value.int .i64 v2,Value.int .i64 v3,Value.int .i64 v4]:Array Value).all (·.oneCell')=true:=by simp [Value.oneCell']
def NdIn (b t:Nat) (w:World) (v:Value) (l:List Nd):Prop:=SlIn b t w v l.length (ndcells l)
theorem ndcells_ne {l:List Nd} (h:0<l.length):ndcells l≠[]:=by
 intro e
 have:=ndcells_length l
 rw [e] at this
 simp at this
 omega
theorem NdsAt.of_in {b t:Nat} {w:World} {a:Option Addr} {cap:Nat} {l:List Nd} (h:NdIn b t w (.slice a l.length cap) l):NdsAt w a l:=by
 intro k hk
 obtain ⟨g,off,rfl,h1,h2,h3⟩:=SlIn.some h (ndcells_ne (by omega))
 have hl:=ndcells_length l
 obtain ⟨e0,e1,e2,e3,e4⟩:=ndcells_get l k hk
 refine ⟨g,off,rfl,by omega,?_,?_,?_,?_,?_⟩
 ·have:=(SlIn.cells h (k*5) (by omega)).1
  rw [e0] at this
  exact this
 ·have:=(SlIn.cells h (k*5+1) (by omega)).1
  rw [e1] at this
  exact this
 ·have:=(SlIn.cells h (k*5+2) (by omega)).1
  rw [e2] at this
  exact this
 ·have:=(SlIn.cells h (k*5+3) (by omega)).1
  rw [e3] at this
  exact this
 ·have:=(SlIn.cells h (k*5+4) (by omega)).1
  rw [e4] at this
  exact this
theorem NdIn.of_row {b t:Nat} {w:World} {v:Value} {l:List Nd} (h:NdRow b w v l) (ht:∀ k,v.ownBlock=some k→k<t) (hs:t≤w.heap.size):NdIn b t w v l:=SlIn.of_row h ht hs
def NdsV (w:World) (v:Value) (l:List Nd):Prop:=∃ a c,v = .slice a l.length c∧NdsAt w a l∧l.length≤c∧(a=none→c=0)
def NdsW (b t:Nat) (w:World) (v:Value) (l:List Nd):Prop:=NdIn b t w v l∧∃ a c,v = .slice a l.length c∧l.length≤c∧(a=none→c=0)
section
variable {b t:Nat} {w w':World} {v:Value} {l:List Nd}
theorem NdsW.at (h:NdsW b t w v l):NdsV w v l:=by
 obtain ⟨h1,a,c,rfl,h2⟩:=h
 exact ⟨a,c,rfl,NdsAt.of_in h1,h2⟩
theorem NdsV.below (h:NdsV w v l) (g:Bel w w'):NdsV w' v l:=by
 obtain ⟨a,c,e,h1,h2⟩:=h
 exact ⟨a,c,e,h1.below g,h2⟩
theorem NdsW.keep (h:NdsW b t w v l) (hs:w.heap.size≤w'.heap.size) (hk:∀ k,b≤k→k<t→w'.heap[k]? = w.heap[k]?):NdsW b t w' v l:=⟨SlIn.keep h.1 hs hk,h.2⟩
theorem NdsW.below (h:NdsW b t w v l) (g:Bel w w'):NdsW b t w' v l:=⟨SlIn.below h.1 g,h.2⟩
theorem NdsW.cells (h:NdsW b t w v l):∃ p q,v = .slice p l.length q:=by
 obtain ⟨_,a,c,e,_⟩:=h
 exact ⟨a,c,e⟩
theorem NdsW.of_row (h:NdRow b w v l):NdsW b w.heap.size w v l:=by
 refine ⟨NdIn.of_row h (fun k hk=>(h.lt k hk).2) nlr,?_⟩
 obtain ⟨a,c,e⟩:=h.shape
 subst e
 exact ⟨a,c,rfl,h.cap,h.nilCap⟩
end
theorem heapLt' {w:World} {k:Nat} {o:Obj} (h:w.heap[k]? = some o):k<w.heap.size:=(Array.getElem?_eq_some_iff.1 h).1
def IRow (base:Nat) (w:World) (v:Value) (T:List Int):Prop:=w.ownsRow base 2 1 v T.length (T.map (Value.int .i64))
theorem IRow.carry {base:Nat} {w w':World} {v:Value} {T:List Int} (h:IRow base w v T) (g:∀ k,base≤k→k<w.heap.size→w'.heap[k]? = w.heap[k]?):IRow base w' v T:=by
 refine ⟨h.1,h.2.imp id ?_⟩
 rintro ⟨g0,cap,cur,h1,h2,h3,h4⟩
 exact ⟨g0,cap,cur,h1,h2,by rw [g g0 h2 (heapLt' h3)];exact h3,h4⟩
theorem IRow.shape {base:Nat} {w:World} {v:Value} {T:List Int} (h:IRow base w v T):∃ a cap,v = .slice a T.length cap:=by
 rcases h.2 with ⟨rfl,hn⟩|⟨g,cap,cur,rfl,_⟩
 ·rw [hn];exact ⟨none,0,rfl⟩
 ·exact ⟨_,_,rfl⟩
theorem IRow.ints {base:Nat} {w:World} {a:Option Addr} {cap:Nat} {T:List Int} (h:IRow base w (.slice a T.length cap) T):IntsAt w a T:=by
 intro k hk
 rcases h.2 with ⟨_,hn⟩|⟨g,cap',cur,e,h2,h3,h4⟩
 ·omega
 ·obtain ⟨rfl,_,rfl⟩:a=some ⟨g,0,none⟩∧True∧cap=cap':=by simpa using e
  have hc:=World.ownsRow.cellAt (show w.ownsRow base 2 1 (.slice (some ⟨g,0,none⟩) T.length cap) T.length _ from h) k (by omega)
  exact ⟨g,0,rfl,heapLt' h3,by rw [Nat.zero_add,hc];simp [List.getElem?_eq_getElem hk]⟩
theorem IRow.mono {base base':Nat} {w:World} {v:Value} {xs:List Int} (h:IRow base w v xs) (hb:base'≤base):IRow base' w v xs:=⟨h.1,h.2.imp id fun ⟨g,cap,cur,h1,h2,h3⟩=>⟨g,cap,cur,h1,Nat.le_trans hb h2,h3⟩⟩
theorem info2':(Tryz.prog.info? 2).map (fun i=>(i.zero,i.size,i.bytes))=some (some (.int .i64 0),1,8):=by kernel_rfl
theorem IRow.block {base:Nat} {w:World} {v:Value} {xs:List Int} (h:IRow base w v xs):∀ k,v.ownBlock=some k→base≤k:=fun k hk=>(World.ownsRow.lt h k hk).1
theorem row_iapp1 {ops:Array Oper} {rest:List Oper} {o:Oper} {a:Act} {Q:Exit→Act→World→Prop} {w:World} (hgd:o.guard=none) (s x:Operand)
 (ho:o.op = .call { callee:=.builtin .append,args:=#[s,x],argTypes:=#[27,27] })
 (base:Nat) (v:Value) (xs:List Int) (y:Int) (hs:a.eval s=v) (hrow:IRow base w v xs) (hx:a.eval x = .slice (some ⟨w.heap.size,0,none⟩) 1 1)
 (hlen:xs.length≤1000000) (hb:base≤w.heap.size)
 (h:∀ v' w',IRow base w' v' (xs++[y])→Below base w w'→wpList Tryz.prog ops Q rest (a.put o.dst v') w') :
 wpList Tryz.prog ops Q (o :: rest) a (w.alloc (.cells #[.int .i64 y] 2)):=by
 obtain ⟨i0,hi,hz0,hz1,hz2⟩:=info_parts info2'
 refine wpList_append_own _ hgd s x 27 ho base 2 i0 (.int .i64 0) 1 8 Tryz.underlying27 hi hz0 hz1 hz2 rfl (by decide) _ _ _ hs (World.ownsRow.alloc hrow _) ⟨w.heap.size,0,none⟩ 1 1 [.int .i64 y] hx rfl ?_ ?_ ?_ ?_ ?_ ?_
 ·intro j u hj
  match j,hj with
  |0,hj=>simp at hj;subst hj;simp [Addr.add]
 ·intro u hu;simp at hu;subst hu;rfl
 ·unfold maxLen;omega
 ·omega
 ·simp;omega
 ·intro v' w' h1 h2 _
  refine h v' w' ?_ ?_
  ·unfold IRow
   rw [List.length_append,List.map_append]
   exact h1
  ·exact ((Below.refl base w).alloc hb _).grown h2 (by simp;omega) (fun k hk=>IRow.block hrow k hk)
theorem IRow.below {base n:Nat} {w w':World} {v:Value} {l:List Int} (h:IRow base w v l) (hn:∀ k,v.ownBlock=some k→k<n) (g:Below n w w'):IRow base w' v l:=by
 refine ⟨h.1,h.2.imp id ?_⟩
 rintro ⟨g0,cap,cur,h1,h2,h3,h4⟩
 exact ⟨g0,cap,cur,h1,h2,by rw [g.block g0 (hn g0 (by rw [h1];rfl))];exact h3,h4⟩
theorem IRow.lt {base:Nat} {w:World} {v:Value} {l:List Int} (h:IRow base w v l):∀ k,v.ownBlock=some k→base≤k∧k<w.heap.size:=World.ownsRow.lt h
theorem IRow.alloc {base:Nat} {w:World} {v:Value} {l:List Int} (h:IRow base w v l) (o:Obj):IRow base (w.alloc o) v l:=World.ownsRow.alloc h o
theorem irow_built (w:World) (base:Nat) (hb:base≤w.heap.size):IRow base (w.alloc (.cells #[] 2)) (.slice (some ⟨w.heap.size,0,none⟩) 0 0) [] :=
 ⟨rfl,.inr ⟨w.heap.size,0,#[],rfl,hb,by show (w.heap.push _)[w.heap.size]? = _;simp,nlr,by decide,rfl,rfl⟩⟩
theorem IRow.none {base:Nat} {w:World} {a:Option Addr} {n cap:Nat} {l:List Int} (h:IRow base w (.slice a n cap) l):a = .none→cap=0:=by
 rintro rfl
 rcases h.2 with ⟨e,_⟩|⟨g,cap',cur,e,_⟩
 ·cases e;rfl
 ·cases e
def IntIn (b t:Nat) (w:World) (v:Value) (l:List Int):Prop:=SlIn b t w v l.length (l.map (Value.int .i64))
theorem IntsAt.of_in {b t:Nat} {w:World} {a:Option Addr} {cap:Nat} {l:List Int} (h:IntIn b t w (.slice a l.length cap) l):IntsAt w a l:=by
 intro k hk
 obtain ⟨g,off,rfl,h1,h2,h3⟩:=SlIn.some h (by intro e;rw [List.map_eq_nil_iff] at e;subst e;simp at hk)
 refine ⟨g,off,rfl,by omega,?_⟩
 have:=(SlIn.cells h k (by simpa using hk)).1
 rw [this,List.getElem?_map,List.getElem?_eq_getElem hk]
 rfl
theorem IntIn.of_row {b t:Nat} {w:World} {v:Value} {l:List Int} (h:IRow b w v l) (ht:∀ k,v.ownBlock=some k→k<t) (hs:t≤w.heap.size):IntIn b t w v l:=SlIn.of_row h ht hs
def IntsV (w:World) (v:Value) (l:List Int):Prop:=∃ a c,v = .slice a l.length c∧IntsAt w a l∧l.length≤c∧(a=none→c=0)
def IntsW (b t:Nat) (w:World) (v:Value) (l:List Int):Prop:=IntIn b t w v l∧∃ a c,v = .slice a l.length c∧l.length≤c∧(a=none→c=0)
section
variable {b t:Nat} {w w':World} {v:Value} {l:List Int}
theorem IntsW.at (h:IntsW b t w v l):IntsV w v l:=by
 obtain ⟨h1,a,c,rfl,h2⟩:=h
 exact ⟨a,c,rfl,IntsAt.of_in h1,h2⟩
theorem IntsV.below (h:IntsV w v l) (g:Bel w w'):IntsV w' v l:=by
 obtain ⟨a,c,e,h1,h2⟩:=h
 exact ⟨a,c,e,h1.below g,h2⟩
theorem IntsW.keep (h:IntsW b t w v l) (hs:w.heap.size≤w'.heap.size) (hk:∀ k,b≤k→k<t→w'.heap[k]? = w.heap[k]?):IntsW b t w' v l:=⟨SlIn.keep h.1 hs hk,h.2⟩
theorem IntsW.below (h:IntsW b t w v l) (g:Bel w w'):IntsW b t w' v l:=⟨SlIn.below h.1 g,h.2⟩
theorem IntsW.cells (h:IntsW b t w v l):∃ p q,v = .slice p l.length q:=by
 obtain ⟨_,a,c,e,_⟩:=h
 exact ⟨a,c,e⟩
theorem IntsW.of_row (h:IRow b w v l):IntsW b w.heap.size w v l:=by
 refine ⟨IntIn.of_row h (fun k hk=>(World.ownsRow.lt h k hk).2) nlr,?_⟩
 obtain ⟨a,c,e⟩:=h.shape
 subst e
 refine ⟨a,c,rfl,?_,h.none⟩
 rcases h.2 with ⟨e,hn⟩|⟨g',c',cur,e,_,_,h4,_⟩
 ·omega
 ·cases e;exact h4
end
end Go.Proofs.YtgebghkcikmfaaaGreatDoor
