import Derived.Test.YtgebghkcikmfaaaGreatDoorQP17RwFn
import Derived.Test.YtgebghkcikmfaaaGreatDoorQP3IzGrow
import Derived.Test.YtgebghkcikmfaaaGreatDoorQP7StepRow
import Derived.Laws.ResultCell
import Derived.Laws.CopyOwn
namespace Go.Proofs.YtgebghkcikmfaaaGreatDoor
open Go.RowKit
theorem izIn_nil (b t:Nat) (w:World):IzIn b t w (.slice none 0 0) [] :=
 ⟨[],⟨SlIn.nil _ _ _ _ _ _,rfl,fun i hi=>by simp at hi,fun i hi=>by simp at hi,fun i j k o hi=>by simp at hi,fun i k o hi=>by simp at hi⟩⟩
structure PuR (w:World) (f:Int) (a:Option Addr) (n c:Nat) (i:It) (B G:Nat) (vx:Option Addr) (vc:Nat) (vs:List Value) (ls':List (List It)) (wr:World):Prop where
 box:Boxed wr w.heap.size #[.int .i64 f,.slice a n c] 44
 item:Boxed wr (w.heap.size+1) #[.int .i64 i.id,.int .i64 i.size,.int .i64 i.tm] 52
 res:Boxed wr (w.heap.size+1+1) #[.int .i64 0,.slice none 0 0] 44
 out:Boxed wr B #[.int .i64 f,.slice vx n vc] 44
 g:IzG G (.slice vx n vc) vs ls' wr
 bel:Bel w wr
 lo:w.heap.size+3≤G
 hi:w.heap.size+3≤B
section
variable {w:World} {f:Int} {a:Option Addr} {n c:Nat} {i:It} {B G:Nat} {vx:Option Addr} {vc:Nat} {vs:List Value} {ls':List (List It)} {wr wd:World}
theorem PuR.done (h:PuR w f a n c i B G vx vc vs ls' wr) (hl:ls'.length=n):RwIn w.heap.size (wr.setRow (w.heap.size+1+1) #[.int .i64 f,.slice vx n vc]).heap.size (wr.setRow (w.heap.size+1+1) #[.int .i64 f,.slice vx n vc]) (.agg #[.int .i64 f,.slice vx n vc]) ⟨f,ls'⟩∧Bel w (wr.setRow (w.heap.size+1+1) #[.int .i64 f,.slice vx n vc]):=by
 have lo:=h.lo
 refine ⟨⟨vx,vc,by unfold Rw.val;simp [hl],vs,?_⟩,below_setRow h.bel (by omega) _⟩
 have hg:IzG G (.slice vx n vc) vs ls' (wr.setRow (w.heap.size+1+1) #[.int .i64 f,.slice vx n vc]):=h.g.other fun k hk _=>setRow_other _ _ _ _ (by omega)
 have hd:=hg.done
 show IzV _ _ _ (.slice vx ls'.length vc) vs ls'
 rw [hl]
 exact hd.wide (by omega) nlr nlr
end
theorem results_two_tmp {P:Program} {fn:Func} {p q x:Tmp} {ty tz:TypeId} (h:fn.results=#[.cell p ty,.cell q tz,.tmp x]) (tmps:Array Value) (w:World) (g k:Nat) (t u:TypeId) (cs ds:Array Value) (fr gr:Nat×Nat) (d d':TypeDesc) (v:Value)
 (hp:tmps.getD p undef = .pointer (some ⟨g,0,none⟩)) (hq:tmps.getD q undef = .pointer (some ⟨k,0,none⟩)) (hv:tmps.getD x undef=v) (hg:w.heap[g]? = some (.cells cs t fr)) (hk:w.heap[k]? = some (.cells ds u gr))
 (hu:P.underlying ty=some d) (hd:(match d with | .struct _ | .array _ _=>true|_=>false)=true) (hi:(P.info? ty).map (·.size)=some cs.size)
 (hu':P.underlying tz=some d') (hd':(match d' with | .struct _ | .array _ _=>true|_=>false)=true) (hi':(P.info? tz).map (·.size)=some ds.size) :
 (results fn tmps).run P w = .ok (.tuple #[.agg cs,.agg ds,v]) w:=by
 have hp':tmps[p]?.getD undef = .pointer (some ⟨g,0,none⟩):=by simpa using hp
 have hq':tmps[q]?.getD undef = .pointer (some ⟨k,0,none⟩):=by simpa using hq
 have hv':tmps[x]?.getD undef=v:=by simpa using hv
 simp [results,h,hp',hq',hv',asAddr,run_loadVar_row w g t ty cs fr d hg hu hd hi,run_loadVar_row w k u tz ds gr d' hk hu' hd' hi']
theorem ItsAt.tail {w:World} {b off:Nat} {l:List It} (h:ItsAt w (some ⟨b,off,none⟩) l):ItsAt w (some ⟨b,off+3,none⟩) (l.drop 1):=by
 intro k hk
 rw [List.length_drop] at hk
 obtain ⟨b',off',e,hb,c0,c1,c2⟩:=h (k+1) (by omega)
 cases e
 have ea:itAt (l.drop 1) k=itAt l (k+1):=by unfold itAt;rw [List.getElem?_drop,Nat.add_comm]
 rw [ea]
 rw [show off+(k+1)*3=off+3+k*3 by omega] at c0 c1 c2
 exact ⟨b,off+3,rfl,hb,c0,c1,c2⟩
structure PoR (w:World) (f:Int) (a:Option Addr) (n c B G:Nat) (vx:Option Addr) (vc:Nat) (vs:List Value) (ls':List (List It)) (wr:World):Prop where
 box:Boxed wr w.heap.size #[.int .i64 f,.slice a n c] 44
 res:Boxed wr (w.heap.size+1) #[.int .i64 0,.slice none 0 0] 44
 item:Boxed wr (w.heap.size+1+1) #[.int .i64 0,.int .i64 0,.int .i64 0] 52
 out:Boxed wr B #[.int .i64 f,.slice vx n vc] 44
 g:IzG G (.slice vx n vc) vs ls' wr
 bel:Bel w wr
 lo:w.heap.size+3≤G
 hi:w.heap.size+3≤B
section
variable {w:World} {f:Int} {a:Option Addr} {n c B G:Nat} {vx:Option Addr} {vc:Nat} {vs:List Value} {ls':List (List It)} {wr wd:World}
theorem PoR.below (h:PoR w f a n c B G vx vc vs ls' wr) (g:Bel wr wd):PoR w f a n c B G vx vc vs ls' wd :=
 ⟨h.box.below h.box.under g,h.res.below h.res.under g,h.item.below h.item.under g,h.out.below h.out.under g,h.g.below g,h.bel.trans (g.mono h.bel.size),h.lo,h.hi⟩
theorem PoR.done (h:PoR w f a n c B G vx vc vs ls' wr) (hl:ls'.length=n) {wz:World} (ho:∀ k,k≠w.heap.size+1→k≠w.heap.size+1+1→wz.heap[k]? = wr.heap[k]?) (hb:Below w.heap.size wr wz) :
 RwIn w.heap.size wz.heap.size wz (.agg #[.int .i64 f,.slice vx n vc]) ⟨f,ls'⟩∧Bel w wz:=by
 have lo:=h.lo
 refine ⟨⟨vx,vc,by unfold Rw.val;simp [hl],vs,?_⟩,h.bel.trans hb⟩
 have hg:IzG G (.slice vx n vc) vs ls' wz:=h.g.other fun k hk _=>ho k (by omega) (by omega)
 show IzV _ _ _ (.slice vx ls'.length vc) vs ls'
 rw [hl]
 exact hg.done.wide (by omega) nlr nlr
end
theorem two_rows {w:World} {a b:Nat} {x y:Array Value} (k:Nat) (h1:k≠a) (h2:k≠b):((w.setRow a x).setRow b y).heap[k]? = w.heap[k]? := by rw [setRow_other _ _ _ _ h2,setRow_other _ _ _ _ h1]
theorem pop_fill {w:World} {s t n:Nat} {R I:TypeId} {z0 z1 y0 y1 y2:Value} (a b c d e:Value) (h1:Boxed w s #[z0,z1] R) (h2:Boxed w t #[y0,y1,y2] I) (hne:s≠t) (hs:n≤s) (ht:n≤t) :
 (Boxed (((((w.setCell ⟨s,0,none⟩ a).setCell ⟨s,1,none⟩ b).setCell ⟨t,0,none⟩ c).setCell ⟨t,1,none⟩ d).setCell ⟨t,2,none⟩ e) s #[a,b] R∧Boxed (((((w.setCell ⟨s,0,none⟩ a).setCell ⟨s,1,none⟩ b).setCell ⟨t,0,none⟩ c).setCell ⟨t,1,none⟩ d).setCell ⟨t,2,none⟩ e) t #[c,d,e] I∧(∀ k,k≠s→k≠t→(((((w.setCell ⟨s,0,none⟩ a).setCell ⟨s,1,none⟩ b).setCell ⟨t,0,none⟩ c).setCell ⟨t,1,none⟩ d).setCell ⟨t,2,none⟩ e).heap[k]? = w.heap[k]?)∧Below n w (((((w.setCell ⟨s,0,none⟩ a).setCell ⟨s,1,none⟩ b).setCell ⟨t,0,none⟩ c).setCell ⟨t,1,none⟩ d).setCell ⟨t,2,none⟩ e)) ∧
 (Boxed (((((w.setCell ⟨t,0,none⟩ c).setCell ⟨t,1,none⟩ d).setCell ⟨t,2,none⟩ e).setCell ⟨s,0,none⟩ a).setCell ⟨s,1,none⟩ b) s #[a,b] R∧Boxed (((((w.setCell ⟨t,0,none⟩ c).setCell ⟨t,1,none⟩ d).setCell ⟨t,2,none⟩ e).setCell ⟨s,0,none⟩ a).setCell ⟨s,1,none⟩ b) t #[c,d,e] I∧(∀ k,k≠s→k≠t→(((((w.setCell ⟨t,0,none⟩ c).setCell ⟨t,1,none⟩ d).setCell ⟨t,2,none⟩ e).setCell ⟨s,0,none⟩ a).setCell ⟨s,1,none⟩ b).heap[k]? = w.heap[k]?)∧Below n w (((((w.setCell ⟨t,0,none⟩ c).setCell ⟨t,1,none⟩ d).setCell ⟨t,2,none⟩ e).setCell ⟨s,0,none⟩ a).setCell ⟨s,1,none⟩ b)):=by
 have o:∀ (w:World) (g k j:Nat) (v:Value),k≠g→(w.setCell ⟨g,j,none⟩ v).heap[k]? = w.heap[k]? := fun w g k j v hk=>Below.heap_setCell _ _ _ _ hk
 refine ⟨⟨?_,?_,fun k k1 k2=>?_,?_⟩,⟨?_,?_,fun k k1 k2=>?_,?_⟩⟩
 ·exact ((((h1.put 0 a).put 1 b).far hne 0 c).far hne 1 d).far hne 2 e
 ·exact (((((h2.far hne.symm 0 a).far hne.symm 1 b).put 0 c).put 1 d).put 2 e)
 ·rw [o _ _ _ _ _ k2,o _ _ _ _ _ k2,o _ _ _ _ _ k2,o _ _ _ _ _ k1,o _ _ _ _ _ k1]
 ·exact ((((((Below.refl n w).setCell hs _).setCell hs _).setCell ht _).setCell ht _).setCell ht _)
 ·exact ((((h1.far hne 0 c).far hne 1 d).far hne 2 e).put 0 a).put 1 b
 ·exact ((((h2.put 0 c).put 1 d).put 2 e).far hne.symm 0 a).far hne.symm 1 b
 ·rw [o _ _ _ _ _ k1,o _ _ _ _ _ k1,o _ _ _ _ _ k2,o _ _ _ _ _ k2,o _ _ _ _ _ k2]
 ·exact ((((((Below.refl n w).setCell ht _).setCell ht _).setCell ht _).setCell hs _).setCell hs _)
end Go.Proofs.YtgebghkcikmfaaaGreatDoor
