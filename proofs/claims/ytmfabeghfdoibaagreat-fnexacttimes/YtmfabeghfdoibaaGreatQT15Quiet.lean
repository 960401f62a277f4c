import Derived.Test.YtmfabeghfdoibaaGreatQT0FrPlain
import Derived.Deep.QuietTactic
namespace Go.Proofs.YtmfabeghfdoibaaGreat
open Go.RowKit
structure BelW (n:Nat) (w:World) where
 w':World
 h:Below n w w'
theorem rgb {P:Program} {id:Nat} {Q:Exit→Act→World→Prop} {a:Act} {w:World} {l:List Oper} (n:Nat) (hm:P.follows .mixedOrders=true) (hB:Region.lexB .any l.toArray=true)
 (h:wpQuiet P l.toArray (fun x=>∃ p:BelW n w,x=p.w') (fun a'=>∀ x,(∃ p:BelW n w,x=p.w')→Q .normal a' x) l a):(Code.region id l.toArray true).wp P Q a w :=
 wp_region_quiet (C:=fun x=>∃ p:BelW n w,x=p.w') hm hB ⟨⟨w.drew,(Below.refl _ _).drew⟩,rfl⟩ (by simpa using h)
theorem quiet_below {P:Program} {f:FuncId} {args:Array Value} {n:Nat} {w:World} {p:BelW n w} {v:Value} (hn:n≤w.heap.size)
 (h:Calls P f args p.w' fun e w'=>e = .returned v∧Below p.w'.heap.size p.w' w'):Calls P f args p.w' fun e w''=>e = .returned v∧∃ q:BelW n w,w''=q.w' :=
 h.mono fun _ w'' ⟨he,hb⟩=>⟨he,⟨w'',p.h.trans (hb.mono (Nat.le_trans hn p.h.size))⟩,rfl⟩
theorem qb {P:Program} {f:FuncId} {args:Array Value} {w:World} {p:BelW w.heap.size w} {v:Value} (h:Calls P f args p.w' fun e w'=>e = .returned v∧Below p.w'.heap.size p.w' w'):Calls P f args p.w' fun e w''=>e = .returned v∧∃ q:BelW w.heap.size w,w''=q.w':=quiet_below (Nat.le_refl _) h
theorem BelW.out {n:Nat} {w x:World} (h:∃ p:BelW n w,x=p.w'):Below n w x:=by
 obtain ⟨p,rfl⟩:=h
 exact p.h
end Go.Proofs.YtmfabeghfdoibaaGreat
