import Derived.Deep.QuietTactic
import Derived.Below
import Derived.Test.YtfdapmchpikfiaaNdPlain
import Derived.Test.YtfdapmchpikfiaaM2PzSpecF
import Derived.Test.YtfdapmchpikfiaaM1DrawCur
import Derived.BigQuiet
import Derived.WalkKit
import Derived.WalkSpells
import Derived.WalkLawsBesides
import Derived.RegionTactic
/-
  A region that draws its order and only reads, whose callees lay blocks of their own: walked once, in the class of the worlds in which all that lay lies. By the verifier.
-/
namespace Go.Proofs.Ytfdapmchpikfiaa
open Go.RowKit

/-- A world in which all that lay lies. -/
structure BelW (n : Nat) (w : World) where
  w' : World
  h : Below n w w'
theorem region_below {P : Program} {id : Nat} {Q : Exit → Act → World → Prop} {a : Act} {w : World} {l : List Oper} (n : Nat) (hm : P.follows .mixedOrders = true) (hB : Region.lexB .any l.toArray = true)
    (h : wpQuiet P l.toArray (fun x => ∃ p : BelW n w, x = p.w') (fun a' => ∀ x, (∃ p : BelW n w, x = p.w') → Q .normal a' x) l a) : (Code.region id l.toArray true).wp P Q a w :=
  wp_region_quiet (C := fun x => ∃ p : BelW n w, x = p.w') hm hB ⟨⟨w.drew, (Below.refl _ _).drew⟩, rfl⟩ (by simpa using h)
theorem quiet_below {P : Program} {f : FuncId} {args : Array Value} {n : Nat} {w : World} {p : BelW n w} {v : Value} (hn : n ≤ w.heap.size)
    (h : Calls P f args p.w' fun e w' => e = .returned v ∧ Below p.w'.heap.size p.w' w') : Calls P f args p.w' fun e w'' => e = .returned v ∧ ∃ q : BelW n w, w'' = q.w' :=
  h.mono fun _ w'' ⟨he, hb⟩ => ⟨he, ⟨w'', p.h.trans (hb.mono (Nat.le_trans hn p.h.size))⟩, rfl⟩
theorem BelW.out {n : Nat} {w x : World} (h : ∃ p : BelW n w, x = p.w') : Below n w x := by
  obtain ⟨p, rfl⟩ := h
  exact p.h
end Go.Proofs.Ytfdapmchpikfiaa

/-
  The walks of the laws' comparisons of trees that are alike. By the verifier.
-/
namespace Go.Proofs.Ytfdapmchpikfiaa
open Go.RowKit

set_option maxHeartbeats 3200000 in
set_option maxRecDepth 100000 in
theorem likeNds (a1 a2 : Option Addr) (cap1 cap2 : Nat) (l : List Nd) (w : World) (hT : l.length ≤ 1048576) (h1 : Hid (NdsAt w a1 l)) (h2 : Hid (NdsAt w a2 l)) :
    Calls Try.prog 13 #[.slice a1 l.length cap1, .slice a2 l.length cap2] w fun e w' => e = .returned (.bool true) ∧ Below w.heap.size w w' := by
  obtain ⟨len, hlen⟩ : ∃ n, l.length = n := ⟨_, rfl⟩
  rw [hlen] at hT ⊢
  have Hlen : Hid (l.length = len) := hlen
  clear hlen
  go_enter Try.func13, Try.ntmps13
  go_wp2
  go_loopw [5] (fun i wr => ∃ k : Nat, k ≤ len ∧ i = .int .i64 k ∧ Hid (Below w.heap.size w wr)) (fun i _ => len - (intOf i).toNat)
  case atStart => exact ⟨0, Nat.zero_le _, rfl, Below.refl _ _⟩
  case round =>
    obtain ⟨k, hk, rfl, Hb⟩ := hrel
    by_cases hlt : k < len
    · have hkl : k < l.length := by rw [Hlen.out]; exact hlt
      have R1 := (h1.out.below Hb.out).drew
      have R2 := (h2.out.below Hb.out).drew
      obtain ⟨b1, o1, ha1, -⟩ := R1 k hkl
      obtain ⟨b2, o2, ha2, -⟩ := R2 k hkl
      subst ha1
      subst ha2
      obtain ⟨c0, c1, c2, c3, c4⟩ := R1.cells hkl
      obtain ⟨d0, d1, d2, d3, d4⟩ := R2.cells hkl
      clear R1 R2
      generalize ndAt l k = x at c0 c1 c2 c3 c4 d0 d1 d2 d3 d4
      obtain ⟨x0, x1, x2, x3, x4⟩ := x
      simp only [] at c0 c1 c2 c3 c4 d0 d1 d2 d3 d4
      have hlt' : (k : Int) < (len : Int) := by omega
      have B2 : Hid (Below w.heap.size w wr.drew) := Hb.out.drew
      go_wp2
      go_region
      all_goals
        go_wp2
        go_roundw
        case rel => exact ⟨k + 1, by omega, by go_num, B2⟩
        case measure => simp [intOf]; omega
    · obtain rfl : k = len := by omega
      go_wp2
      go_ret
      exact ⟨rfl, Hb.out⟩

end Go.Proofs.Ytfdapmchpikfiaa
