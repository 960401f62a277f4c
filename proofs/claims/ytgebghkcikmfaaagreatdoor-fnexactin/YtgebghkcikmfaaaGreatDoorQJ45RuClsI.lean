import Derived.Test.YtgebghkcikmfaaaGreatDoorQJ9RuApp
import Derived.Laws.AppendOwnNone
import Derived.Lib.SliceRun
import Derived.WalkKit
import Derived.WalkSpells
import Derived.WalkLawsBesides
import Derived.Handy
import Derived.Test.YtgebghkcikmfaaaGreatDoorQJ42RuOrder
import Derived.BigQuiet
import Derived.Laws.Rows
import Derived.Shelf.Abstract
import Derived.Test.YtgebghkcikmfaaaGreatDoorQJ11GtFacts
import Derived.Test.YtgebghkcikmfaaaGreatDoorQJ39RuMat
import Derived.Test.YtgebghkcikmfaaaGreatDoorQJ38RuDel
/-
  The walk of slices.Clone on rules. By the verifier.
-/
namespace Go.Proofs.YtgebghkcikmfaaaGreatDoor
open Go.RowKit

theorem implCloneRu (a0 : Option Addr) (c : Nat) (l : List Ru) (w : World) (h : Hid (RusAt w a0 l)) (hn : a0 = none → c = 0) (hl : l.length ≤ 1048576) :
    Calls Tryz.prog 199 #[.slice a0 l.length c] w fun e w' => ∃ v', e = .returned v' ∧ RuRow w.heap.size w' v' l ∧ Below w.heap.size w w' := by
  have q : ∀ (w : World) (a : Option Addr) (n c n' c' : Nat), (binOp .eql 40 (.slice a n c) (.slice none n' c')).run Tryz.prog w = .ok (.bool a.isNone) w := fun w a n c n' c' => Lib.run_eql_slice_nil w _ _ a n c n' c' Tryz.underlying40
  cases a0 with
  | none =>
    obtain rfl := h.out.empty
    go_enter Tryz.func199, Tryz.ntmps199
    go_wp2
    go_ret
    exact ⟨_, rfl, World.ownsRow_nil _ _ _ _, Below.refl _ _⟩
  | some ad =>
    obtain ⟨len, hlen⟩ : ∃ n, l.length = n := ⟨_, rfl⟩
    have Hlen : Hid (l.length = len) := hlen
    have hr : Hid (RuRow w.heap.size (w.alloc (.cells #[] 136)) (.slice (some ⟨w.heap.size, 0, .none⟩) 0 0) []) := ru_built w _ (Nat.le_refl _)
    rw [hlen] at hl ⊢
    clear hlen
    go_enter Tryz.func199, Tryz.ntmps199
    go_wp2_with (at_builtin; refine ru_app rfl (.tmp 5) (.tmp 6) rfl w.heap.size _ [] _ _ _ l Hlen.out rfl rfl hr.out (h.out.alloc _) (by simp) (by rw [Hlen.out]; simp; omega) (by simp) ?_)
    intro v' w' r b _ _
    have H : Hid (RuRow w.heap.size w' v' l ∧ Below w.heap.size w w') := ⟨r, ((Below.refl _ w).alloc (Nat.le_refl _) _).trans b⟩
    clear r b
    go_wp2
    go_ret
    exact ⟨_, rfl, H.out⟩
end Go.Proofs.YtgebghkcikmfaaaGreatDoor

/-
  The walk of slices.MinFunc over the program's order of rules, and of the foremost one. By the verifier, by program.
-/
namespace Go.Proofs.YtgebghkcikmfaaaGreatDoor
open Go.RowKit Go.Shelf

/-- The one of the first k that goes ahead. -/
def frontK (l : List Ru) : Nat → Ru
  | 0 => ruAt l 0
  | k + 1 => if (ruAt l k).ahead (frontK l k) = true then ruAt l k else frontK l k
theorem Ru.ahead_self (a : Ru) : a.ahead a = false := by unfold Ru.ahead; exact decide_eq_false (by omega)
theorem frontK_one (l : List Ru) : frontK l 1 = ruAt l 0 := by simp [frontK, Ru.ahead_self]

theorem boxed_sets {w : World} {B : Nat} {t : TypeId} (m r : Ru) (x : Boxed w B #[.int .i64 m.id, .int .i64 m.prio, .int .i64 m.snet, .int .i64 m.sbits, .int .i64 m.dnet, .int .i64 m.dbits, .int .i64 m.proto, .int .i64 m.low, .int .i64 m.high, .int .i64 m.cls] t) : Boxed ((((((((((w.setCell ⟨B, 0, none⟩ (.int .i64 r.id)).setCell ⟨B, 1, none⟩ (.int .i64 r.prio)).setCell ⟨B, 2, none⟩ (.int .i64 r.snet)).setCell ⟨B, 3, none⟩ (.int .i64 r.sbits)).setCell ⟨B, 4, none⟩ (.int .i64 r.dnet)).setCell ⟨B, 5, none⟩ (.int .i64 r.dbits)).setCell ⟨B, 6, none⟩ (.int .i64 r.proto)).setCell ⟨B, 7, none⟩ (.int .i64 r.low)).setCell ⟨B, 8, none⟩ (.int .i64 r.high)).setCell ⟨B, 9, none⟩ (.int .i64 r.cls)) B #[.int .i64 r.id, .int .i64 r.prio, .int .i64 r.snet, .int .i64 r.sbits, .int .i64 r.dnet, .int .i64 r.dbits, .int .i64 r.proto, .int .i64 r.low, .int .i64 r.high, .int .i64 r.cls] t := by
  have x1 : Boxed (w.setCell ⟨B, 0, none⟩ (.int .i64 r.id)) B #[.int .i64 r.id, .int .i64 m.prio, .int .i64 m.snet, .int .i64 m.sbits, .int .i64 m.dnet, .int .i64 m.dbits, .int .i64 m.proto, .int .i64 m.low, .int .i64 m.high, .int .i64 m.cls] t := by have := x.put 0 (.int .i64 r.id); simpa using this
  have x2 : Boxed ((w.setCell ⟨B, 0, none⟩ (.int .i64 r.id)).setCell ⟨B, 1, none⟩ (.int .i64 r.prio)) B #[.int .i64 r.id, .int .i64 r.prio, .int .i64 m.snet, .int .i64 m.sbits, .int .i64 m.dnet, .int .i64 m.dbits, .int .i64 m.proto, .int .i64 m.low, .int .i64 m.high, .int .i64 m.cls] t := by have := x1.put 1 (.int .i64 r.prio); simpa using this
  have x3 : Boxed (((w.setCell ⟨B, 0, none⟩ (.int .i64 r.id)).setCell ⟨B, 1, none⟩ (.int .i64 r.prio)).setCell ⟨B, 2, none⟩ (.int .i64 r.snet)) B #[.int .i64 r.id, .int .i64 r.prio, .int .i64 r.snet, .int .i64 m.sbits, .int .i64 m.dnet, .int .i64 m.dbits, .int .i64 m.proto, .int .i64 m.low, .int .i64 m.high, .int .i64 m.cls] t := by have := x2.put 2 (.int .i64 r.snet); simpa using this
  have x4 : Boxed ((((w.setCell ⟨B, 0, none⟩ (.int .i64 r.id)).setCell ⟨B, 1, none⟩ (.int .i64 r.prio)).setCell ⟨B, 2, none⟩ (.int .i64 r.snet)).setCell ⟨B, 3, none⟩ (.int .i64 r.sbits)) B #[.int .i64 r.id, .int .i64 r.prio, .int .i64 r.snet, .int .i64 r.sbits, .int .i64 m.dnet, .int .i64 m.dbits, .int .i64 m.proto, .int .i64 m.low, .int .i64 m.high, .int .i64 m.cls] t := by have := x3.put 3 (.int .i64 r.sbits); simpa using this
  have x5 : Boxed (((((w.setCell ⟨B, 0, none⟩ (.int .i64 r.id)).setCell ⟨B, 1, none⟩ (.int .i64 r.prio)).setCell ⟨B, 2, none⟩ (.int .i64 r.snet)).setCell ⟨B, 3, none⟩ (.int .i64 r.sbits)).setCell ⟨B, 4, none⟩ (.int .i64 r.dnet)) B #[.int .i64 r.id, .int .i64 r.prio, .int .i64 r.snet, .int .i64 r.sbits, .int .i64 r.dnet, .int .i64 m.dbits, .int .i64 m.proto, .int .i64 m.low, .int .i64 m.high, .int .i64 m.cls] t := by have := x4.put 4 (.int .i64 r.dnet); simpa using this
  have x6 : Boxed ((((((w.setCell ⟨B, 0, none⟩ (.int .i64 r.id)).setCell ⟨B, 1, none⟩ (.int .i64 r.prio)).setCell ⟨B, 2, none⟩ (.int .i64 r.snet)).setCell ⟨B, 3, none⟩ (.int .i64 r.sbits)).setCell ⟨B, 4, none⟩ (.int .i64 r.dnet)).setCell ⟨B, 5, none⟩ (.int .i64 r.dbits)) B #[.int .i64 r.id, .int .i64 r.prio, .int .i64 r.snet, .int .i64 r.sbits, .int .i64 r.dnet, .int .i64 r.dbits, .int .i64 m.proto, .int .i64 m.low, .int .i64 m.high, .int .i64 m.cls] t := by have := x5.put 5 (.int .i64 r.dbits); simpa using this
  have x7 : Boxed (((((((w.setCell ⟨B, 0, none⟩ (.int .i64 r.id)).setCell ⟨B, 1, none⟩ (.int .i64 r.prio)).setCell ⟨B, 2, none⟩ (.int .i64 r.snet)).setCell ⟨B, 3, none⟩ (.int .i64 r.sbits)).setCell ⟨B, 4, none⟩ (.int .i64 r.dnet)).setCell ⟨B, 5, none⟩ (.int .i64 r.dbits)).setCell ⟨B, 6, none⟩ (.int .i64 r.proto)) B #[.int .i64 r.id, .int .i64 r.prio, .int .i64 r.snet, .int .i64 r.sbits, .int .i64 r.dnet, .int .i64 r.dbits, .int .i64 r.proto, .int .i64 m.low, .int .i64 m.high, .int .i64 m.cls] t := by have := x6.put 6 (.int .i64 r.proto); simpa using this
  have x8 : Boxed ((((((((w.setCell ⟨B, 0, none⟩ (.int .i64 r.id)).setCell ⟨B, 1, none⟩ (.int .i64 r.prio)).setCell ⟨B, 2, none⟩ (.int .i64 r.snet)).setCell ⟨B, 3, none⟩ (.int .i64 r.sbits)).setCell ⟨B, 4, none⟩ (.int .i64 r.dnet)).setCell ⟨B, 5, none⟩ (.int .i64 r.dbits)).setCell ⟨B, 6, none⟩ (.int .i64 r.proto)).setCell ⟨B, 7, none⟩ (.int .i64 r.low)) B #[.int .i64 r.id, .int .i64 r.prio, .int .i64 r.snet, .int .i64 r.sbits, .int .i64 r.dnet, .int .i64 r.dbits, .int .i64 r.proto, .int .i64 r.low, .int .i64 m.high, .int .i64 m.cls] t := by have := x7.put 7 (.int .i64 r.low); simpa using this
  have x9 : Boxed (((((((((w.setCell ⟨B, 0, none⟩ (.int .i64 r.id)).setCell ⟨B, 1, none⟩ (.int .i64 r.prio)).setCell ⟨B, 2, none⟩ (.int .i64 r.snet)).setCell ⟨B, 3, none⟩ (.int .i64 r.sbits)).setCell ⟨B, 4, none⟩ (.int .i64 r.dnet)).setCell ⟨B, 5, none⟩ (.int .i64 r.dbits)).setCell ⟨B, 6, none⟩ (.int .i64 r.proto)).setCell ⟨B, 7, none⟩ (.int .i64 r.low)).setCell ⟨B, 8, none⟩ (.int .i64 r.high)) B #[.int .i64 r.id, .int .i64 r.prio, .int .i64 r.snet, .int .i64 r.sbits, .int .i64 r.dnet, .int .i64 r.dbits, .int .i64 r.proto, .int .i64 r.low, .int .i64 r.high, .int .i64 m.cls] t := by have := x8.put 8 (.int .i64 r.high); simpa using this
  have x10 : Boxed ((((((((((w.setCell ⟨B, 0, none⟩ (.int .i64 r.id)).setCell ⟨B, 1, none⟩ (.int .i64 r.prio)).setCell ⟨B, 2, none⟩ (.int .i64 r.snet)).setCell ⟨B, 3, none⟩ (.int .i64 r.sbits)).setCell ⟨B, 4, none⟩ (.int .i64 r.dnet)).setCell ⟨B, 5, none⟩ (.int .i64 r.dbits)).setCell ⟨B, 6, none⟩ (.int .i64 r.proto)).setCell ⟨B, 7, none⟩ (.int .i64 r.low)).setCell ⟨B, 8, none⟩ (.int .i64 r.high)).setCell ⟨B, 9, none⟩ (.int .i64 r.cls)) B #[.int .i64 r.id, .int .i64 r.prio, .int .i64 r.snet, .int .i64 r.sbits, .int .i64 r.dnet, .int .i64 r.dbits, .int .i64 r.proto, .int .i64 r.low, .int .i64 r.high, .int .i64 r.cls] t := by have := x9.put 9 (.int .i64 r.cls); simpa using this
  exact x10
theorem far_sets {w : World} {B k : Nat} {cs : Array Value} {t : TypeId} (r : Ru) (x : Boxed w k cs t) (hne : k ≠ B) : Boxed ((((((((((w.setCell ⟨B, 0, none⟩ (.int .i64 r.id)).setCell ⟨B, 1, none⟩ (.int .i64 r.prio)).setCell ⟨B, 2, none⟩ (.int .i64 r.snet)).setCell ⟨B, 3, none⟩ (.int .i64 r.sbits)).setCell ⟨B, 4, none⟩ (.int .i64 r.dnet)).setCell ⟨B, 5, none⟩ (.int .i64 r.dbits)).setCell ⟨B, 6, none⟩ (.int .i64 r.proto)).setCell ⟨B, 7, none⟩ (.int .i64 r.low)).setCell ⟨B, 8, none⟩ (.int .i64 r.high)).setCell ⟨B, 9, none⟩ (.int .i64 r.cls)) k cs t := ((((((((((x.far hne 0 _).far hne 1 _).far hne 2 _).far hne 3 _).far hne 4 _).far hne 5 _).far hne 6 _).far hne 7 _).far hne 8 _).far hne 9 _)
theorem below_sets {w0 w : World} {B n : Nat} (r : Ru) (x : Below n w0 w) (hb : n ≤ B) : Below n w0 ((((((((((w.setCell ⟨B, 0, none⟩ (.int .i64 r.id)).setCell ⟨B, 1, none⟩ (.int .i64 r.prio)).setCell ⟨B, 2, none⟩ (.int .i64 r.snet)).setCell ⟨B, 3, none⟩ (.int .i64 r.sbits)).setCell ⟨B, 4, none⟩ (.int .i64 r.dnet)).setCell ⟨B, 5, none⟩ (.int .i64 r.dbits)).setCell ⟨B, 6, none⟩ (.int .i64 r.proto)).setCell ⟨B, 7, none⟩ (.int .i64 r.low)).setCell ⟨B, 8, none⟩ (.int .i64 r.high)).setCell ⟨B, 9, none⟩ (.int .i64 r.cls)) := ((((((((((x.setCell hb _).setCell hb _).setCell hb _).setCell hb _).setCell hb _).setCell hb _).setCell hb _).setCell hb _).setCell hb _).setCell hb _)
set_option maxHeartbeats 6400000 in
set_option maxRecDepth 100000 in
theorem implMin (a : Option Addr) (cap : Nat) (l : List Ru) (w : World) (hT : l.length ≤ 40) (h0 : 0 < l.length) (h : Hid (RusAt w a l)) :
    Calls Tryz.prog 253 #[.slice a l.length cap, .func (.func 254) #[] #[]] w fun e w' => e = .returned (frontK l l.length).val ∧ Below w.heap.size w w' := by
  have eg : ∀ args w, (callFunc 254 args).run Tryz.prog w = .ok (.enter 254 args) w := enters_of Tryz.func254 (by kernel_rfl) rfl
  obtain ⟨len, hlen⟩ : ∃ n, l.length = n := ⟨_, rfl⟩
  rw [hlen] at hT h0 ⊢
  have Hlen : Hid (l.length = len) := hlen
  clear hlen
  have hl1 : ¬ (len : Int) < 1 := by omega
  obtain ⟨b1, o1, ha1, hb1, -⟩ := h.out 0 (by rw [Hlen.out]; exact h0)
  subst ha1
  have Hb1 : Hid (b1 < w.heap.size) := hb1
  obtain ⟨r0, hr0⟩ : ∃ r0, ruAt l 0 = r0 := ⟨_, rfl⟩
  obtain ⟨c0, c1, c2, c3, c4, c5, c6, c7, c8, c9⟩ := h.out.cells (k := 0) (by rw [Hlen.out]; exact h0)
  rw [hr0] at c0 c1 c2 c3 c4 c5 c6 c7 c8 c9
  simp only [Nat.zero_mul, Nat.add_zero] at c0 c1 c2 c3 c4 c5 c6 c7 c8 c9
  have X0 : Hid (Below w.heap.size w ((w.alloc (.cells #[.int .i64 0, .int .i64 0, .int .i64 0, .int .i64 0, .int .i64 0, .int .i64 0, .int .i64 0, .int .i64 0, .int .i64 0, .int .i64 0] 136)).alloc (.cells #[.int .i64 r0.id, .int .i64 r0.prio, .int .i64 r0.snet, .int .i64 r0.sbits, .int .i64 r0.dnet, .int .i64 r0.dbits, .int .i64 r0.proto, .int .i64 r0.low, .int .i64 r0.high, .int .i64 r0.cls] 136)) ∧ Boxed ((w.alloc (.cells #[.int .i64 0, .int .i64 0, .int .i64 0, .int .i64 0, .int .i64 0, .int .i64 0, .int .i64 0, .int .i64 0, .int .i64 0, .int .i64 0] 136)).alloc (.cells #[.int .i64 r0.id, .int .i64 r0.prio, .int .i64 r0.snet, .int .i64 r0.sbits, .int .i64 r0.dnet, .int .i64 r0.dbits, .int .i64 r0.proto, .int .i64 r0.low, .int .i64 r0.high, .int .i64 r0.cls] 136)) (w.heap.size + 1) #[.int .i64 r0.id, .int .i64 r0.prio, .int .i64 r0.snet, .int .i64 r0.sbits, .int .i64 r0.dnet, .int .i64 r0.dbits, .int .i64 r0.proto, .int .i64 r0.low, .int .i64 r0.high, .int .i64 r0.cls] 136 ∧ Boxed ((w.alloc (.cells #[.int .i64 0, .int .i64 0, .int .i64 0, .int .i64 0, .int .i64 0, .int .i64 0, .int .i64 0, .int .i64 0, .int .i64 0, .int .i64 0] 136)).alloc (.cells #[.int .i64 r0.id, .int .i64 r0.prio, .int .i64 r0.snet, .int .i64 r0.sbits, .int .i64 r0.dnet, .int .i64 r0.dbits, .int .i64 r0.proto, .int .i64 r0.low, .int .i64 r0.high, .int .i64 r0.cls] 136)) w.heap.size #[.int .i64 0, .int .i64 0, .int .i64 0, .int .i64 0, .int .i64 0, .int .i64 0, .int .i64 0, .int .i64 0, .int .i64 0, .int .i64 0] 136) :=
    ⟨((Below.refl _ w).alloc (Nat.le_refl _) _).alloc (by simp) _, by have := Boxed.new (w.alloc (.cells #[.int .i64 0, .int .i64 0, .int .i64 0, .int .i64 0, .int .i64 0, .int .i64 0, .int .i64 0, .int .i64 0, .int .i64 0, .int .i64 0] 136)) #[.int .i64 r0.id, .int .i64 r0.prio, .int .i64 r0.snet, .int .i64 r0.sbits, .int .i64 r0.dnet, .int .i64 r0.dbits, .int .i64 r0.proto, .int .i64 r0.low, .int .i64 r0.high, .int .i64 r0.cls] 136; simpa using this, (Boxed.new _ _ _).more _⟩
  go_enter Tryz.func253, Tryz.ntmps253
  go_wp2
  clear c0 c1 c2 c3 c4 c5 c6 c7 c8 c9
  generalize (w.alloc (.cells #[.int .i64 0, .int .i64 0, .int .i64 0, .int .i64 0, .int .i64 0, .int .i64 0, .int .i64 0, .int .i64 0, .int .i64 0, .int .i64 0] 136)).alloc (.cells #[.int .i64 r0.id, .int .i64 r0.prio, .int .i64 r0.snet, .int .i64 r0.sbits, .int .i64 r0.dnet, .int .i64 r0.dbits, .int .i64 r0.proto, .int .i64 r0.low, .int .i64 r0.high, .int .i64 r0.cls] 136) = W at X0 ⊢
  go_loopw [6] (fun i wr => ∃ k : Nat, 1 ≤ k ∧ k ≤ len ∧ i = .int .i64 k ∧ Hid (∃ m : Ru, m = frontK l k ∧ Below w.heap.size w wr ∧ Boxed wr (w.heap.size + 1) #[.int .i64 m.id, .int .i64 m.prio, .int .i64 m.snet, .int .i64 m.sbits, .int .i64 m.dnet, .int .i64 m.dbits, .int .i64 m.proto, .int .i64 m.low, .int .i64 m.high, .int .i64 m.cls] 136 ∧ Boxed wr w.heap.size #[.int .i64 0, .int .i64 0, .int .i64 0, .int .i64 0, .int .i64 0, .int .i64 0, .int .i64 0, .int .i64 0, .int .i64 0, .int .i64 0] 136)) (fun i _ => len - (intOf i).toNat)
  case atStart => exact ⟨1, Nat.le_refl _, h0, rfl, r0, by rw [frontK_one, hr0], X0.out⟩
  case round =>
    obtain ⟨k, hk1, hk, rfl, HI⟩ := hrel
    obtain ⟨m, hm, hbel, hmb, hzb⟩ := HI.out
    have HX : Hid (Below w.heap.size w wr ∧ Boxed wr (w.heap.size + 1) #[.int .i64 m.id, .int .i64 m.prio, .int .i64 m.snet, .int .i64 m.sbits, .int .i64 m.dnet, .int .i64 m.dbits, .int .i64 m.proto, .int .i64 m.low, .int .i64 m.high, .int .i64 m.cls] 136 ∧ Boxed wr w.heap.size #[.int .i64 0, .int .i64 0, .int .i64 0, .int .i64 0, .int .i64 0, .int .i64 0, .int .i64 0, .int .i64 0, .int .i64 0, .int .i64 0] 136) := ⟨hbel, hmb, hzb⟩
    have Hm : Hid (m = frontK l k) := hm
    clear hm hbel hmb hzb HI
    by_cases hlt : k < len
    · have R : Hid (RusAt wr (some ⟨b1, o1, none⟩) l) := h.out.below HX.out.1
      have hlt' : (k : Int) < (len : Int) := by omega
      haveI : Nonempty (BelW wr.heap.size wr) := ⟨⟨wr, Below.refl _ _⟩⟩
      have f0 := fun p : BelW wr.heap.size wr => ((R.out.below p.h).cells (k := k) (by rw [Hlen.out]; exact hlt)).1
      have f1 := fun p : BelW wr.heap.size wr => ((R.out.below p.h).cells (k := k) (by rw [Hlen.out]; exact hlt)).2.1
      have f2 := fun p : BelW wr.heap.size wr => ((R.out.below p.h).cells (k := k) (by rw [Hlen.out]; exact hlt)).2.2.1
      have f3 := fun p : BelW wr.heap.size wr => ((R.out.below p.h).cells (k := k) (by rw [Hlen.out]; exact hlt)).2.2.2.1
      have f4 := fun p : BelW wr.heap.size wr => ((R.out.below p.h).cells (k := k) (by rw [Hlen.out]; exact hlt)).2.2.2.2.1
      have f5 := fun p : BelW wr.heap.size wr => ((R.out.below p.h).cells (k := k) (by rw [Hlen.out]; exact hlt)).2.2.2.2.2.1
      have f6 := fun p : BelW wr.heap.size wr => ((R.out.below p.h).cells (k := k) (by rw [Hlen.out]; exact hlt)).2.2.2.2.2.2.1
      have f7 := fun p : BelW wr.heap.size wr => ((R.out.below p.h).cells (k := k) (by rw [Hlen.out]; exact hlt)).2.2.2.2.2.2.2.1
      have f8 := fun p : BelW wr.heap.size wr => ((R.out.below p.h).cells (k := k) (by rw [Hlen.out]; exact hlt)).2.2.2.2.2.2.2.2.1
      have f9 := fun p : BelW wr.heap.size wr => ((R.out.below p.h).cells (k := k) (by rw [Hlen.out]; exact hlt)).2.2.2.2.2.2.2.2.2
      have g0 : ∀ p : BelW wr.heap.size wr, p.w'.cell? ⟨w.heap.size + 1, 0, none⟩ = some (.int .i64 m.id) := fun p => (HX.out.2.1.below HX.out.2.1.under p.h).cell 0 rfl
      have g1 : ∀ p : BelW wr.heap.size wr, p.w'.cell? ⟨w.heap.size + 1, 1, none⟩ = some (.int .i64 m.prio) := fun p => (HX.out.2.1.below HX.out.2.1.under p.h).cell 1 rfl
      have g2 : ∀ p : BelW wr.heap.size wr, p.w'.cell? ⟨w.heap.size + 1, 2, none⟩ = some (.int .i64 m.snet) := fun p => (HX.out.2.1.below HX.out.2.1.under p.h).cell 2 rfl
      have g3 : ∀ p : BelW wr.heap.size wr, p.w'.cell? ⟨w.heap.size + 1, 3, none⟩ = some (.int .i64 m.sbits) := fun p => (HX.out.2.1.below HX.out.2.1.under p.h).cell 3 rfl
      have g4 : ∀ p : BelW wr.heap.size wr, p.w'.cell? ⟨w.heap.size + 1, 4, none⟩ = some (.int .i64 m.dnet) := fun p => (HX.out.2.1.below HX.out.2.1.under p.h).cell 4 rfl
      have g5 : ∀ p : BelW wr.heap.size wr, p.w'.cell? ⟨w.heap.size + 1, 5, none⟩ = some (.int .i64 m.dbits) := fun p => (HX.out.2.1.below HX.out.2.1.under p.h).cell 5 rfl
      have g6 : ∀ p : BelW wr.heap.size wr, p.w'.cell? ⟨w.heap.size + 1, 6, none⟩ = some (.int .i64 m.proto) := fun p => (HX.out.2.1.below HX.out.2.1.under p.h).cell 6 rfl
      have g7 : ∀ p : BelW wr.heap.size wr, p.w'.cell? ⟨w.heap.size + 1, 7, none⟩ = some (.int .i64 m.low) := fun p => (HX.out.2.1.below HX.out.2.1.under p.h).cell 7 rfl
      have g8 : ∀ p : BelW wr.heap.size wr, p.w'.cell? ⟨w.heap.size + 1, 8, none⟩ = some (.int .i64 m.high) := fun p => (HX.out.2.1.below HX.out.2.1.under p.h).cell 8 rfl
      have g9 : ∀ p : BelW wr.heap.size wr, p.w'.cell? ⟨w.heap.size + 1, 9, none⟩ = some (.int .i64 m.cls) := fun p => (HX.out.2.1.below HX.out.2.1.under p.h).cell 9 rfl
      have Hs : Hid (frontK l (k + 1) = if (ruAt l k).ahead m = true then ruAt l k else m) := by
        show frontK l (k + 1) = _
        rw [Hm.out]; rfl
      have C := fun w => implRuOrder (ruAt l k) m w
      have Ha := ruOrd_ahead (ruAt l k) m
      generalize ruOrdV (ruAt l k) m = z at C Ha
      unfold Ru.val at C
      have C' : Hid _ := C
      clear C
      cases had : (ruAt l k).ahead m
      · rw [had] at Ha Hs
        have hz : ¬ z < 0 := of_decide_eq_false Ha
        simp only [Bool.false_eq_true, if_false] at Hs
        clear had Ha
        generalize ruAt l k = r at f0 f1 f2 f3 f4 f5 f6 f7 f8 f9 C'
        go_wp2
        refine region_below wr.heap.size (by kernel_rfl) (by kernel_rfl) ?_
        repeat (go_big_quiet_step ((go_at_call 254; refine quiet_below (Nat.le_refl _) (C'.out _))))
        refine wpQuiet_nil ?_
        intro wq hx
        have hq := BelW.out hx
        have B : Hid (∃ m : Ru, m = frontK l (k + 1) ∧ Below w.heap.size w wq ∧ Boxed wq (w.heap.size + 1) #[.int .i64 m.id, .int .i64 m.prio, .int .i64 m.snet, .int .i64 m.sbits, .int .i64 m.dnet, .int .i64 m.dbits, .int .i64 m.proto, .int .i64 m.low, .int .i64 m.high, .int .i64 m.cls] 136 ∧ Boxed wq w.heap.size #[.int .i64 0, .int .i64 0, .int .i64 0, .int .i64 0, .int .i64 0, .int .i64 0, .int .i64 0, .int .i64 0, .int .i64 0, .int .i64 0] 136) := ⟨m, Hs.out.symm, HX.out.1.trans (hq.mono HX.out.1.size), HX.out.2.1.below HX.out.2.1.under hq, HX.out.2.2.below HX.out.2.2.under hq⟩
        clear hx hq f0 f1 f2 f3 f4 f5 f6 f7 f8 f9 g0 g1 g2 g3 g4 g5 g6 g7 g8 g9
        go_wp2
        go_roundw
        case rel => exact ⟨k + 1, by omega, by omega, by go_num, B⟩
        case measure => simp [intOf]; omega
      · rw [had] at Ha Hs
        have hz : z < 0 := of_decide_eq_true Ha
        simp only [if_true] at Hs
        clear had Ha
        obtain ⟨r, hr⟩ : ∃ r, ruAt l k = r := ⟨_, rfl⟩
        have Hr : Hid (ruAt l k = r) := hr
        rw [hr] at f0 f1 f2 f3 f4 f5 f6 f7 f8 f9 C' Hs
        clear hr
        go_wp2
        refine region_below wr.heap.size (by kernel_rfl) (by kernel_rfl) ?_
        repeat (go_big_quiet_step ((go_at_call 254; refine quiet_below (Nat.le_refl _) (C'.out _))))
        refine wpQuiet_nil ?_
        intro wq hx
        have hq := BelW.out hx
        have Q : Hid (Below w.heap.size w wq ∧ Boxed wq (w.heap.size + 1) #[.int .i64 m.id, .int .i64 m.prio, .int .i64 m.snet, .int .i64 m.sbits, .int .i64 m.dnet, .int .i64 m.dbits, .int .i64 m.proto, .int .i64 m.low, .int .i64 m.high, .int .i64 m.cls] 136 ∧ Boxed wq w.heap.size #[.int .i64 0, .int .i64 0, .int .i64 0, .int .i64 0, .int .i64 0, .int .i64 0, .int .i64 0, .int .i64 0, .int .i64 0, .int .i64 0] 136) := ⟨HX.out.1.trans (hq.mono HX.out.1.size), HX.out.2.1.below HX.out.2.1.under hq, HX.out.2.2.below HX.out.2.2.under hq⟩
        clear hx hq f0 f1 f2 f3 f4 f5 f6 f7 f8 f9 g0 g1 g2 g3 g4 g5 g6 g7 g8 g9
        have R2 := (h.out.below Q.out.1).cells (k := k) (by rw [Hlen.out]; exact hlt)
        rw [Hr.out] at R2
        obtain ⟨c0, c1, c2, c3, c4, c5, c6, c7, c8, c9⟩ := R2
        have d0 : wq.cell? ⟨w.heap.size + 1, 0, none⟩ = some (.int .i64 m.id) := Q.out.2.1.cell 0 rfl
        have d1 : wq.cell? ⟨w.heap.size + 1, 1, none⟩ = some (.int .i64 m.prio) := Q.out.2.1.cell 1 rfl
        have d2 : wq.cell? ⟨w.heap.size + 1, 2, none⟩ = some (.int .i64 m.snet) := Q.out.2.1.cell 2 rfl
        have d3 : wq.cell? ⟨w.heap.size + 1, 3, none⟩ = some (.int .i64 m.sbits) := Q.out.2.1.cell 3 rfl
        have d4 : wq.cell? ⟨w.heap.size + 1, 4, none⟩ = some (.int .i64 m.dnet) := Q.out.2.1.cell 4 rfl
        have d5 : wq.cell? ⟨w.heap.size + 1, 5, none⟩ = some (.int .i64 m.dbits) := Q.out.2.1.cell 5 rfl
        have d6 : wq.cell? ⟨w.heap.size + 1, 6, none⟩ = some (.int .i64 m.proto) := Q.out.2.1.cell 6 rfl
        have d7 : wq.cell? ⟨w.heap.size + 1, 7, none⟩ = some (.int .i64 m.low) := Q.out.2.1.cell 7 rfl
        have d8 : wq.cell? ⟨w.heap.size + 1, 8, none⟩ = some (.int .i64 m.high) := Q.out.2.1.cell 8 rfl
        have d9 : wq.cell? ⟨w.heap.size + 1, 9, none⟩ = some (.int .i64 m.cls) := Q.out.2.1.cell 9 rfl
        have i0 : wq.frozen? ⟨w.heap.size + 1, 0, none⟩ = false := Q.out.2.1.ice 0
        have i1 : wq.frozen? ⟨w.heap.size + 1, 1, none⟩ = false := Q.out.2.1.ice 1
        have i2 : wq.frozen? ⟨w.heap.size + 1, 2, none⟩ = false := Q.out.2.1.ice 2
        have i3 : wq.frozen? ⟨w.heap.size + 1, 3, none⟩ = false := Q.out.2.1.ice 3
        have i4 : wq.frozen? ⟨w.heap.size + 1, 4, none⟩ = false := Q.out.2.1.ice 4
        have i5 : wq.frozen? ⟨w.heap.size + 1, 5, none⟩ = false := Q.out.2.1.ice 5
        have i6 : wq.frozen? ⟨w.heap.size + 1, 6, none⟩ = false := Q.out.2.1.ice 6
        have i7 : wq.frozen? ⟨w.heap.size + 1, 7, none⟩ = false := Q.out.2.1.ice 7
        have i8 : wq.frozen? ⟨w.heap.size + 1, 8, none⟩ = false := Q.out.2.1.ice 8
        have i9 : wq.frozen? ⟨w.heap.size + 1, 9, none⟩ = false := Q.out.2.1.ice 9
        have B : Hid (∃ m : Ru, m = frontK l (k + 1) ∧ Below w.heap.size w ((((((((((wq.setCell ⟨w.heap.size + 1, 0, none⟩ (.int .i64 r.id)).setCell ⟨w.heap.size + 1, 1, none⟩ (.int .i64 r.prio)).setCell ⟨w.heap.size + 1, 2, none⟩ (.int .i64 r.snet)).setCell ⟨w.heap.size + 1, 3, none⟩ (.int .i64 r.sbits)).setCell ⟨w.heap.size + 1, 4, none⟩ (.int .i64 r.dnet)).setCell ⟨w.heap.size + 1, 5, none⟩ (.int .i64 r.dbits)).setCell ⟨w.heap.size + 1, 6, none⟩ (.int .i64 r.proto)).setCell ⟨w.heap.size + 1, 7, none⟩ (.int .i64 r.low)).setCell ⟨w.heap.size + 1, 8, none⟩ (.int .i64 r.high)).setCell ⟨w.heap.size + 1, 9, none⟩ (.int .i64 r.cls)) ∧ Boxed ((((((((((wq.setCell ⟨w.heap.size + 1, 0, none⟩ (.int .i64 r.id)).setCell ⟨w.heap.size + 1, 1, none⟩ (.int .i64 r.prio)).setCell ⟨w.heap.size + 1, 2, none⟩ (.int .i64 r.snet)).setCell ⟨w.heap.size + 1, 3, none⟩ (.int .i64 r.sbits)).setCell ⟨w.heap.size + 1, 4, none⟩ (.int .i64 r.dnet)).setCell ⟨w.heap.size + 1, 5, none⟩ (.int .i64 r.dbits)).setCell ⟨w.heap.size + 1, 6, none⟩ (.int .i64 r.proto)).setCell ⟨w.heap.size + 1, 7, none⟩ (.int .i64 r.low)).setCell ⟨w.heap.size + 1, 8, none⟩ (.int .i64 r.high)).setCell ⟨w.heap.size + 1, 9, none⟩ (.int .i64 r.cls)) (w.heap.size + 1) #[.int .i64 m.id, .int .i64 m.prio, .int .i64 m.snet, .int .i64 m.sbits, .int .i64 m.dnet, .int .i64 m.dbits, .int .i64 m.proto, .int .i64 m.low, .int .i64 m.high, .int .i64 m.cls] 136 ∧ Boxed ((((((((((wq.setCell ⟨w.heap.size + 1, 0, none⟩ (.int .i64 r.id)).setCell ⟨w.heap.size + 1, 1, none⟩ (.int .i64 r.prio)).setCell ⟨w.heap.size + 1, 2, none⟩ (.int .i64 r.snet)).setCell ⟨w.heap.size + 1, 3, none⟩ (.int .i64 r.sbits)).setCell ⟨w.heap.size + 1, 4, none⟩ (.int .i64 r.dnet)).setCell ⟨w.heap.size + 1, 5, none⟩ (.int .i64 r.dbits)).setCell ⟨w.heap.size + 1, 6, none⟩ (.int .i64 r.proto)).setCell ⟨w.heap.size + 1, 7, none⟩ (.int .i64 r.low)).setCell ⟨w.heap.size + 1, 8, none⟩ (.int .i64 r.high)).setCell ⟨w.heap.size + 1, 9, none⟩ (.int .i64 r.cls)) w.heap.size #[.int .i64 0, .int .i64 0, .int .i64 0, .int .i64 0, .int .i64 0, .int .i64 0, .int .i64 0, .int .i64 0, .int .i64 0, .int .i64 0] 136) :=
          ⟨r, Hs.out.symm, below_sets r Q.out.1 (Nat.le_succ _), boxed_sets m r Q.out.2.1, far_sets r Q.out.2.2 (by omega)⟩
        go_wp2
        go_roundw
        case rel => exact ⟨k + 1, by omega, by omega, by go_num, B⟩
        case measure => simp [intOf]; omega
    · obtain rfl : k = len := by omega
      have d0 : wr.cell? ⟨w.heap.size + 1, 0, none⟩ = some (.int .i64 m.id) := HX.out.2.1.cell 0 rfl
      have d1 : wr.cell? ⟨w.heap.size + 1, 1, none⟩ = some (.int .i64 m.prio) := HX.out.2.1.cell 1 rfl
      have d2 : wr.cell? ⟨w.heap.size + 1, 2, none⟩ = some (.int .i64 m.snet) := HX.out.2.1.cell 2 rfl
      have d3 : wr.cell? ⟨w.heap.size + 1, 3, none⟩ = some (.int .i64 m.sbits) := HX.out.2.1.cell 3 rfl
      have d4 : wr.cell? ⟨w.heap.size + 1, 4, none⟩ = some (.int .i64 m.dnet) := HX.out.2.1.cell 4 rfl
      have d5 : wr.cell? ⟨w.heap.size + 1, 5, none⟩ = some (.int .i64 m.dbits) := HX.out.2.1.cell 5 rfl
      have d6 : wr.cell? ⟨w.heap.size + 1, 6, none⟩ = some (.int .i64 m.proto) := HX.out.2.1.cell 6 rfl
      have d7 : wr.cell? ⟨w.heap.size + 1, 7, none⟩ = some (.int .i64 m.low) := HX.out.2.1.cell 7 rfl
      have d8 : wr.cell? ⟨w.heap.size + 1, 8, none⟩ = some (.int .i64 m.high) := HX.out.2.1.cell 8 rfl
      have d9 : wr.cell? ⟨w.heap.size + 1, 9, none⟩ = some (.int .i64 m.cls) := HX.out.2.1.cell 9 rfl
      have e0 : wr.cell? ⟨w.heap.size, 0, none⟩ = some (.int .i64 0) := HX.out.2.2.cell 0 rfl
      have e1 : wr.cell? ⟨w.heap.size, 1, none⟩ = some (.int .i64 0) := HX.out.2.2.cell 1 rfl
      have e2 : wr.cell? ⟨w.heap.size, 2, none⟩ = some (.int .i64 0) := HX.out.2.2.cell 2 rfl
      have e3 : wr.cell? ⟨w.heap.size, 3, none⟩ = some (.int .i64 0) := HX.out.2.2.cell 3 rfl
      have e4 : wr.cell? ⟨w.heap.size, 4, none⟩ = some (.int .i64 0) := HX.out.2.2.cell 4 rfl
      have e5 : wr.cell? ⟨w.heap.size, 5, none⟩ = some (.int .i64 0) := HX.out.2.2.cell 5 rfl
      have e6 : wr.cell? ⟨w.heap.size, 6, none⟩ = some (.int .i64 0) := HX.out.2.2.cell 6 rfl
      have e7 : wr.cell? ⟨w.heap.size, 7, none⟩ = some (.int .i64 0) := HX.out.2.2.cell 7 rfl
      have e8 : wr.cell? ⟨w.heap.size, 8, none⟩ = some (.int .i64 0) := HX.out.2.2.cell 8 rfl
      have e9 : wr.cell? ⟨w.heap.size, 9, none⟩ = some (.int .i64 0) := HX.out.2.2.cell 9 rfl
      have i0 : wr.frozen? ⟨w.heap.size, 0, none⟩ = false := HX.out.2.2.ice 0
      have i1 : wr.frozen? ⟨w.heap.size, 1, none⟩ = false := HX.out.2.2.ice 1
      have i2 : wr.frozen? ⟨w.heap.size, 2, none⟩ = false := HX.out.2.2.ice 2
      have i3 : wr.frozen? ⟨w.heap.size, 3, none⟩ = false := HX.out.2.2.ice 3
      have i4 : wr.frozen? ⟨w.heap.size, 4, none⟩ = false := HX.out.2.2.ice 4
      have i5 : wr.frozen? ⟨w.heap.size, 5, none⟩ = false := HX.out.2.2.ice 5
      have i6 : wr.frozen? ⟨w.heap.size, 6, none⟩ = false := HX.out.2.2.ice 6
      have i7 : wr.frozen? ⟨w.heap.size, 7, none⟩ = false := HX.out.2.2.ice 7
      have i8 : wr.frozen? ⟨w.heap.size, 8, none⟩ = false := HX.out.2.2.ice 8
      have i9 : wr.frozen? ⟨w.heap.size, 9, none⟩ = false := HX.out.2.2.ice 9
      have B : Hid (Below w.heap.size w ((((((((((wr.setCell ⟨w.heap.size, 0, none⟩ (.int .i64 m.id)).setCell ⟨w.heap.size, 1, none⟩ (.int .i64 m.prio)).setCell ⟨w.heap.size, 2, none⟩ (.int .i64 m.snet)).setCell ⟨w.heap.size, 3, none⟩ (.int .i64 m.sbits)).setCell ⟨w.heap.size, 4, none⟩ (.int .i64 m.dnet)).setCell ⟨w.heap.size, 5, none⟩ (.int .i64 m.dbits)).setCell ⟨w.heap.size, 6, none⟩ (.int .i64 m.proto)).setCell ⟨w.heap.size, 7, none⟩ (.int .i64 m.low)).setCell ⟨w.heap.size, 8, none⟩ (.int .i64 m.high)).setCell ⟨w.heap.size, 9, none⟩ (.int .i64 m.cls))) := below_sets m HX.out.1 (Nat.le_refl _)
      have BX : Hid (Boxed ((((((((((wr.setCell ⟨w.heap.size, 0, none⟩ (.int .i64 m.id)).setCell ⟨w.heap.size, 1, none⟩ (.int .i64 m.prio)).setCell ⟨w.heap.size, 2, none⟩ (.int .i64 m.snet)).setCell ⟨w.heap.size, 3, none⟩ (.int .i64 m.sbits)).setCell ⟨w.heap.size, 4, none⟩ (.int .i64 m.dnet)).setCell ⟨w.heap.size, 5, none⟩ (.int .i64 m.dbits)).setCell ⟨w.heap.size, 6, none⟩ (.int .i64 m.proto)).setCell ⟨w.heap.size, 7, none⟩ (.int .i64 m.low)).setCell ⟨w.heap.size, 8, none⟩ (.int .i64 m.high)).setCell ⟨w.heap.size, 9, none⟩ (.int .i64 m.cls)) w.heap.size #[.int .i64 m.id, .int .i64 m.prio, .int .i64 m.snet, .int .i64 m.sbits, .int .i64 m.dnet, .int .i64 m.dbits, .int .i64 m.proto, .int .i64 m.low, .int .i64 m.high, .int .i64 m.cls] 136) := boxed_sets ⟨0, 0, 0, 0, 0, 0, 0, 0, 0, 0⟩ m HX.out.2.2
      have Hv : Hid ((frontK l k).val = .agg #[.int .i64 m.id, .int .i64 m.prio, .int .i64 m.snet, .int .i64 m.sbits, .int .i64 m.dnet, .int .i64 m.dbits, .int .i64 m.proto, .int .i64 m.low, .int .i64 m.high, .int .i64 m.cls]) := by show (frontK l k).val = .agg #[.int .i64 m.id, .int .i64 m.prio, .int .i64 m.snet, .int .i64 m.sbits, .int .i64 m.dnet, .int .i64 m.dbits, .int .i64 m.proto, .int .i64 m.low, .int .i64 m.high, .int .i64 m.cls]; rw [← Hm.out]; rfl
      go_wp2
      refine bodyPost_ret (results_cell_row Tryz.results253 _ _ w.heap.size _ _ _ _ rfl BX.out Tryz.underlying136 rfl (by kernel_rfl)) rfl ⟨by rw [Hv.out], B.out⟩
end Go.Proofs.YtgebghkcikmfaaaGreatDoor

/-
  The walk of the program's foremost rule, and what it comes to. By the verifier, by program.
-/
namespace Go.Proofs.YtgebghkcikmfaaaGreatDoor
open Go.RowKit

/-- The foremost one; where there is none, all nought. -/
def frontV (l : List Ru) : Ru := if l.length = 0 then ⟨0, 0, 0, 0, 0, 0, 0, 0, 0, 0⟩ else frontK l l.length

set_option maxHeartbeats 3200000 in
set_option maxRecDepth 100000 in
theorem implFore (a : Option Addr) (cap : Nat) (l : List Ru) (w : World) (hT : l.length ≤ 40) (h : Hid (RusAt w a l)) :
    Calls Tryz.prog 202 #[.slice a l.length cap] w fun e w' => e = .returned (frontV l).val ∧ Below w.heap.size w w' := by
  unfold frontV
  by_cases h0 : l.length = 0
  · rw [if_pos h0, h0]
    have hB : Hid (Below w.heap.size w (w.alloc (.cells #[.int .i64 0, .int .i64 0, .int .i64 0, .int .i64 0, .int .i64 0, .int .i64 0, .int .i64 0, .int .i64 0, .int .i64 0, .int .i64 0] 136))) := (Below.refl _ _).alloc (Nat.le_refl _) _
    go_enter Tryz.func202, Tryz.ntmps202
    go_wp2
    refine bodyPost_ret (v := .agg #[.int .i64 0, .int .i64 0, .int .i64 0, .int .i64 0, .int .i64 0, .int .i64 0, .int .i64 0, .int .i64 0, .int .i64 0, .int .i64 0]) (by simp [results, Tryz.results202, go_sem]) rfl ⟨rfl, hB.out⟩
  · rw [if_neg h0]
    have M := fun w h => implMin a cap l w hT (by omega) h
    generalize frontK l l.length = m at M ⊢
    generalize l.length = len at M h0 hT ⊢
    have hne : ((len : Int) == 0) = false := by rw [beq_eq_false_iff_ne]; omega
    have X0 : Hid (Below w.heap.size w (w.alloc (.cells #[.int .i64 0, .int .i64 0, .int .i64 0, .int .i64 0, .int .i64 0, .int .i64 0, .int .i64 0, .int .i64 0, .int .i64 0, .int .i64 0] 136)) ∧ Boxed (w.alloc (.cells #[.int .i64 0, .int .i64 0, .int .i64 0, .int .i64 0, .int .i64 0, .int .i64 0, .int .i64 0, .int .i64 0, .int .i64 0, .int .i64 0] 136)) w.heap.size #[.int .i64 0, .int .i64 0, .int .i64 0, .int .i64 0, .int .i64 0, .int .i64 0, .int .i64 0, .int .i64 0, .int .i64 0, .int .i64 0] 136 ∧ RusAt (w.alloc (.cells #[.int .i64 0, .int .i64 0, .int .i64 0, .int .i64 0, .int .i64 0, .int .i64 0, .int .i64 0, .int .i64 0, .int .i64 0, .int .i64 0] 136)) a l) := ⟨(Below.refl _ _).alloc (Nat.le_refl _) _, Boxed.new _ _ _, h.out.alloc _⟩
    have M' : Hid _ := M
    clear M
    go_enter Tryz.func202, Tryz.ntmps202
    go_wp2_with fail
    refine (M'.out _ X0.out.2.2).mono ?_
    unfold Ru.val
    rintro e w1 ⟨rfl, q⟩
    have X1 : Hid (Below w.heap.size w w1 ∧ Boxed w1 w.heap.size #[.int .i64 0, .int .i64 0, .int .i64 0, .int .i64 0, .int .i64 0, .int .i64 0, .int .i64 0, .int .i64 0, .int .i64 0, .int .i64 0] 136) := ⟨X0.out.1.trans (q.mono X0.out.1.size), X0.out.2.1.below X0.out.2.1.under q⟩
    clear q X0
    have e0 : w1.cell? ⟨w.heap.size, 0, none⟩ = some (.int .i64 0) := X1.out.2.cell 0 rfl
    have e1 : w1.cell? ⟨w.heap.size, 1, none⟩ = some (.int .i64 0) := X1.out.2.cell 1 rfl
    have e2 : w1.cell? ⟨w.heap.size, 2, none⟩ = some (.int .i64 0) := X1.out.2.cell 2 rfl
    have e3 : w1.cell? ⟨w.heap.size, 3, none⟩ = some (.int .i64 0) := X1.out.2.cell 3 rfl
    have e4 : w1.cell? ⟨w.heap.size, 4, none⟩ = some (.int .i64 0) := X1.out.2.cell 4 rfl
    have e5 : w1.cell? ⟨w.heap.size, 5, none⟩ = some (.int .i64 0) := X1.out.2.cell 5 rfl
    have e6 : w1.cell? ⟨w.heap.size, 6, none⟩ = some (.int .i64 0) := X1.out.2.cell 6 rfl
    have e7 : w1.cell? ⟨w.heap.size, 7, none⟩ = some (.int .i64 0) := X1.out.2.cell 7 rfl
    have e8 : w1.cell? ⟨w.heap.size, 8, none⟩ = some (.int .i64 0) := X1.out.2.cell 8 rfl
    have e9 : w1.cell? ⟨w.heap.size, 9, none⟩ = some (.int .i64 0) := X1.out.2.cell 9 rfl
    have i0 : w1.frozen? ⟨w.heap.size, 0, none⟩ = false := X1.out.2.ice 0
    have i1 : w1.frozen? ⟨w.heap.size, 1, none⟩ = false := X1.out.2.ice 1
    have i2 : w1.frozen? ⟨w.heap.size, 2, none⟩ = false := X1.out.2.ice 2
    have i3 : w1.frozen? ⟨w.heap.size, 3, none⟩ = false := X1.out.2.ice 3
    have i4 : w1.frozen? ⟨w.heap.size, 4, none⟩ = false := X1.out.2.ice 4
    have i5 : w1.frozen? ⟨w.heap.size, 5, none⟩ = false := X1.out.2.ice 5
    have i6 : w1.frozen? ⟨w.heap.size, 6, none⟩ = false := X1.out.2.ice 6
    have i7 : w1.frozen? ⟨w.heap.size, 7, none⟩ = false := X1.out.2.ice 7
    have i8 : w1.frozen? ⟨w.heap.size, 8, none⟩ = false := X1.out.2.ice 8
    have i9 : w1.frozen? ⟨w.heap.size, 9, none⟩ = false := X1.out.2.ice 9
    have B : Hid (Below w.heap.size w ((((((((((w1.setCell ⟨w.heap.size, 0, none⟩ (.int .i64 m.id)).setCell ⟨w.heap.size, 1, none⟩ (.int .i64 m.prio)).setCell ⟨w.heap.size, 2, none⟩ (.int .i64 m.snet)).setCell ⟨w.heap.size, 3, none⟩ (.int .i64 m.sbits)).setCell ⟨w.heap.size, 4, none⟩ (.int .i64 m.dnet)).setCell ⟨w.heap.size, 5, none⟩ (.int .i64 m.dbits)).setCell ⟨w.heap.size, 6, none⟩ (.int .i64 m.proto)).setCell ⟨w.heap.size, 7, none⟩ (.int .i64 m.low)).setCell ⟨w.heap.size, 8, none⟩ (.int .i64 m.high)).setCell ⟨w.heap.size, 9, none⟩ (.int .i64 m.cls))) := below_sets m X1.out.1 (Nat.le_refl _)
    have BX : Hid (Boxed ((((((((((w1.setCell ⟨w.heap.size, 0, none⟩ (.int .i64 m.id)).setCell ⟨w.heap.size, 1, none⟩ (.int .i64 m.prio)).setCell ⟨w.heap.size, 2, none⟩ (.int .i64 m.snet)).setCell ⟨w.heap.size, 3, none⟩ (.int .i64 m.sbits)).setCell ⟨w.heap.size, 4, none⟩ (.int .i64 m.dnet)).setCell ⟨w.heap.size, 5, none⟩ (.int .i64 m.dbits)).setCell ⟨w.heap.size, 6, none⟩ (.int .i64 m.proto)).setCell ⟨w.heap.size, 7, none⟩ (.int .i64 m.low)).setCell ⟨w.heap.size, 8, none⟩ (.int .i64 m.high)).setCell ⟨w.heap.size, 9, none⟩ (.int .i64 m.cls)) w.heap.size #[.int .i64 m.id, .int .i64 m.prio, .int .i64 m.snet, .int .i64 m.sbits, .int .i64 m.dnet, .int .i64 m.dbits, .int .i64 m.proto, .int .i64 m.low, .int .i64 m.high, .int .i64 m.cls] 136) := boxed_sets ⟨0, 0, 0, 0, 0, 0, 0, 0, 0, 0⟩ m X1.out.2
    go_wp2
    refine bodyPost_ret (results_cell_row Tryz.results202 _ _ w.heap.size _ _ _ _ rfl BX.out Tryz.underlying136 rfl (by kernel_rfl)) rfl ⟨rfl, B.out⟩

theorem frontK_more {M : List Ru} (hM : M ≠ []) (r : Ru) : ∀ k, k ≤ M.length → frontK (M ++ [r]) k = frontK M k := by
  have h0 : 0 < M.length := List.length_pos_iff.2 hM
  have hat : ∀ k, k < M.length → ruAt (M ++ [r]) k = ruAt M k := fun k hk => by unfold ruAt; rw [List.getElem?_append_left hk]
  intro k
  induction k with
  | zero => intro _; exact hat 0 h0
  | succ k ih =>
    intro hk
    show (if (ruAt (M ++ [r]) k).ahead (frontK (M ++ [r]) k) = true then ruAt (M ++ [r]) k else frontK (M ++ [r]) k) = if (ruAt M k).ahead (frontK M k) = true then ruAt M k else frontK M k
    rw [ih (by omega), hat k (by omega)]
theorem front_snoc (M : List Ru) (r : Ru) : frontK (M ++ [r]) (M ++ [r]).length = if M = [] then r else if r.ahead (frontK M M.length) = true then r else frontK M M.length := by
  have hr : ruAt (M ++ [r]) M.length = r := by unfold ruAt; simp
  by_cases hM : M = []
  · subst hM
    rw [if_pos rfl]
    show frontK [r] 1 = r
    rw [frontK_one]
    rfl
  · rw [if_neg hM, List.length_append, List.length_singleton]
    show (if (ruAt (M ++ [r]) M.length).ahead (frontK (M ++ [r]) M.length) = true then ruAt (M ++ [r]) M.length else frontK (M ++ [r]) M.length) = _
    rw [hr, frontK_more hM r _ (Nat.le_refl _)]
theorem best_front (l : List Ru) (f : Fr) : ∀ k, k ≤ l.length → (bestK l f k < 0 ∧ (l.take k).filter (fun r => r.hits f) = []) ∨ (0 ≤ bestK l f k ∧ (l.take k).filter (fun r => r.hits f) ≠ [] ∧ ruAt l (bestK l f k).toNat = frontK ((l.take k).filter fun r => r.hits f) ((l.take k).filter fun r => r.hits f).length) := by
  intro k
  induction k with
  | zero => intro _; left; exact ⟨by show (-1 : Int) < 0; omega, rfl⟩
  | succ k ih =>
    intro hk
    have hk' : k < l.length := by omega
    have htk : (l.take (k + 1)).filter (fun r => r.hits f) = if (ruAt l k).hits f = true then (l.take k).filter (fun r => r.hits f) ++ [ruAt l k] else (l.take k).filter (fun r => r.hits f) := by
      rw [List.take_succ_eq_append_getElem hk', List.filter_append, ruAt_lt hk']
      cases h : (l[k]).hits f <;> simp [h]
    rw [htk, bestK_succ]
    unfold bestStep
    cases hh : (ruAt l k).hits f
    · simp only [Bool.false_and, Bool.false_eq_true, if_false]
      exact ih (by omega)
    · simp only [Bool.true_and, if_true]
      rcases ih (by omega) with ⟨hb, hM⟩ | ⟨hb, hM, he⟩
      · right
        rw [decide_eq_true hb]
        simp only [Bool.true_or, if_true]
        refine ⟨by omega, by simp, ?_⟩
        rw [front_snoc, if_pos hM]
        simp
      · right
        rw [decide_eq_false (by omega)]
        simp only [Bool.false_or]
        rw [front_snoc, if_neg hM, ← he]
        by_cases ha : (ruAt l k).ahead (ruAt l (bestK l f k).toNat) = true
        · rw [if_pos ha, if_pos ha]
          exact ⟨by omega, by simp, by simp⟩
        · rw [if_neg ha, if_neg ha]
          exact ⟨hb, by simp, rfl⟩
/-- The foremost one of those that match says. -/
theorem class_front (l : List Ru) (f : Fr) : (frontV (l.filter fun r => r.hits f)).cls = classL l f := by
  have h := best_front l f l.length (Nat.le_refl _)
  rw [List.take_of_length_le (Nat.le_refl _)] at h
  unfold frontV classL
  rcases h with ⟨hb, hM⟩ | ⟨hb, hM, he⟩
  · rw [if_pos hb, hM]
    rfl
  · rw [if_neg (fun e => hM (List.length_eq_zero_iff.1 e)), if_neg (show ¬ bestK l f l.length < 0 by omega), he]
end Go.Proofs.YtgebghkcikmfaaaGreatDoor

/-
  The walk of the program's ClassOf. By the verifier, by program.
-/
namespace Go.Proofs.YtgebghkcikmfaaaGreatDoor
open Go.RowKit Go.Shelf

set_option maxHeartbeats 3200000 in
set_option maxRecDepth 100000 in
theorem implClassC (r o : Ru) (hr : r.ok = true) (ho : o.inn) (B : Nat) (w : World) (hB : Hid (Boxed w B #[.int .i64 o.id, .int .i64 o.prio, .int .i64 o.snet, .int .i64 o.sbits, .int .i64 o.dnet, .int .i64 o.dbits, .int .i64 o.proto, .int .i64 o.low, .int .i64 o.high, .int .i64 o.cls] 136)) :
    Calls Tryz.prog 200 #[r.val, .pointer (some ⟨B, 0, none⟩)] w fun e w' => e = .returned (.bool (!r.cov o)) ∧ Below w.heap.size w w' := by
  have C := fun w => implCov r o hr ho w
  generalize r.cov o = cv at C ⊢
  clear hr ho
  obtain ⟨i, p, sn, sb, dn, db, pr, lo, hi, cl⟩ := r
  simp only [Ru.val] at C ⊢
  have C' : Hid _ := C
  clear C
  have X : Hid (Below w.heap.size w (w.alloc (.cells #[.int .i64 i, .int .i64 p, .int .i64 sn, .int .i64 sb, .int .i64 dn, .int .i64 db, .int .i64 pr, .int .i64 lo, .int .i64 hi, .int .i64 cl] 136)) ∧ Boxed (w.alloc (.cells #[.int .i64 i, .int .i64 p, .int .i64 sn, .int .i64 sb, .int .i64 dn, .int .i64 db, .int .i64 pr, .int .i64 lo, .int .i64 hi, .int .i64 cl] 136)) B #[.int .i64 o.id, .int .i64 o.prio, .int .i64 o.snet, .int .i64 o.sbits, .int .i64 o.dnet, .int .i64 o.dbits, .int .i64 o.proto, .int .i64 o.low, .int .i64 o.high, .int .i64 o.cls] 136) := ⟨(Below.refl _ _).alloc (Nat.le_refl _) _, hB.out.more _⟩
  have o0 : (w.alloc (.cells #[.int .i64 i, .int .i64 p, .int .i64 sn, .int .i64 sb, .int .i64 dn, .int .i64 db, .int .i64 pr, .int .i64 lo, .int .i64 hi, .int .i64 cl] 136)).cell? ⟨B, 0, none⟩ = some (.int .i64 o.id) := X.out.2.cell 0 rfl
  have o1 : (w.alloc (.cells #[.int .i64 i, .int .i64 p, .int .i64 sn, .int .i64 sb, .int .i64 dn, .int .i64 db, .int .i64 pr, .int .i64 lo, .int .i64 hi, .int .i64 cl] 136)).cell? ⟨B, 1, none⟩ = some (.int .i64 o.prio) := X.out.2.cell 1 rfl
  have o2 : (w.alloc (.cells #[.int .i64 i, .int .i64 p, .int .i64 sn, .int .i64 sb, .int .i64 dn, .int .i64 db, .int .i64 pr, .int .i64 lo, .int .i64 hi, .int .i64 cl] 136)).cell? ⟨B, 2, none⟩ = some (.int .i64 o.snet) := X.out.2.cell 2 rfl
  have o3 : (w.alloc (.cells #[.int .i64 i, .int .i64 p, .int .i64 sn, .int .i64 sb, .int .i64 dn, .int .i64 db, .int .i64 pr, .int .i64 lo, .int .i64 hi, .int .i64 cl] 136)).cell? ⟨B, 3, none⟩ = some (.int .i64 o.sbits) := X.out.2.cell 3 rfl
  have o4 : (w.alloc (.cells #[.int .i64 i, .int .i64 p, .int .i64 sn, .int .i64 sb, .int .i64 dn, .int .i64 db, .int .i64 pr, .int .i64 lo, .int .i64 hi, .int .i64 cl] 136)).cell? ⟨B, 4, none⟩ = some (.int .i64 o.dnet) := X.out.2.cell 4 rfl
  have o5 : (w.alloc (.cells #[.int .i64 i, .int .i64 p, .int .i64 sn, .int .i64 sb, .int .i64 dn, .int .i64 db, .int .i64 pr, .int .i64 lo, .int .i64 hi, .int .i64 cl] 136)).cell? ⟨B, 5, none⟩ = some (.int .i64 o.dbits) := X.out.2.cell 5 rfl
  have o6 : (w.alloc (.cells #[.int .i64 i, .int .i64 p, .int .i64 sn, .int .i64 sb, .int .i64 dn, .int .i64 db, .int .i64 pr, .int .i64 lo, .int .i64 hi, .int .i64 cl] 136)).cell? ⟨B, 6, none⟩ = some (.int .i64 o.proto) := X.out.2.cell 6 rfl
  have o7 : (w.alloc (.cells #[.int .i64 i, .int .i64 p, .int .i64 sn, .int .i64 sb, .int .i64 dn, .int .i64 db, .int .i64 pr, .int .i64 lo, .int .i64 hi, .int .i64 cl] 136)).cell? ⟨B, 7, none⟩ = some (.int .i64 o.low) := X.out.2.cell 7 rfl
  have o8 : (w.alloc (.cells #[.int .i64 i, .int .i64 p, .int .i64 sn, .int .i64 sb, .int .i64 dn, .int .i64 db, .int .i64 pr, .int .i64 lo, .int .i64 hi, .int .i64 cl] 136)).cell? ⟨B, 8, none⟩ = some (.int .i64 o.high) := X.out.2.cell 8 rfl
  have o9 : (w.alloc (.cells #[.int .i64 i, .int .i64 p, .int .i64 sn, .int .i64 sb, .int .i64 dn, .int .i64 db, .int .i64 pr, .int .i64 lo, .int .i64 hi, .int .i64 cl] 136)).cell? ⟨B, 9, none⟩ = some (.int .i64 o.cls) := X.out.2.cell 9 rfl
  go_enter Tryz.func200, Tryz.ntmps200
  go_wp2_with fail
  refine (C'.out _).mono ?_
  rintro e w1 ⟨rfl, q⟩
  have X1 : Hid (Below w.heap.size w w1) := X.out.1.trans (q.mono X.out.1.size)
  clear q X o0 o1 o2 o3 o4 o5 o6 o7 o8 o9
  go_wp2
  go_ret
  exact ⟨rfl, X1.out⟩
theorem classTells (o : Ru) (ho : o.inn) (B : Nat) (w : World) (hB : Boxed w B #[.int .i64 o.id, .int .i64 o.prio, .int .i64 o.snet, .int .i64 o.sbits, .int .i64 o.dnet, .int .i64 o.dbits, .int .i64 o.proto, .int .i64 o.low, .int .i64 o.high, .int .i64 o.cls] 136) :
    RuTells w (fun k => k = B) 200 #[] #[.pointer (some ⟨B, 0, none⟩)] (fun r => r.ok = true) (fun r => !r.cov o) := by
  refine ⟨enters_of Tryz.func200 (by kernel_rfl) rfl, fun k hk => ?_, fun W r hr hW => ?_⟩
  · subst hk; exact hB.under
  · exact implClassC r o hr ho B W ((hW B rfl).trans hB)
theorem rus_mem {l : List Ru} (h : rusOk l = true) : ∀ r ∈ l, r.ok = true := by
  intro r hr
  obtain ⟨i, hi, rfl⟩ := List.mem_iff_getElem.1 hr
  have := rus_ok h hi
  rwa [ruAt_lt hi] at this

theorem run_fieldC (m : Ru) (w : World) : (Instr.field 136 (.agg #[.int .i64 m.id, .int .i64 m.prio, .int .i64 m.snet, .int .i64 m.sbits, .int .i64 m.dnet, .int .i64 m.dbits, .int .i64 m.proto, .int .i64 m.low, .int .i64 m.high, .int .i64 m.cls]) 9).run Tryz.prog w = .ok (.int .i64 m.cls) w := by kernel_rfl

set_option maxHeartbeats 6400000 in
set_option maxRecDepth 100000 in
theorem implClassOf (a0 : Option Addr) (cap : Nat) (l : List Ru) (f : Fr) (af : Option Addr) (cf : Nat) (w : World) (hL : l.length ≤ 1048576) (hT : f.tags.length ≤ 1048576) (hn : a0 = none → cap = 0) (h : Hid (RusAt w a0 l)) (hc : Hid (IntsAt w af f.tags)) :
    Calls Tryz.prog 134 #[.slice a0 l.length cap, f.val af cf] w fun e w' => e = .returned (.int .i64 (classV l f)) ∧ Below w.heap.size w w' := by
  have Hv : Hid (classV l f = if rusOk l = true ∧ f.ok = true then classL l f else -1) := rfl
  have A1 := fun w h => implRules a0 cap l w hL h
  have A2 := fun w h => implFrameOk f af cf w hT h
  have A3 := fun w => implOnly f af cf w
  have CL := fun w h => implCloneRu a0 cap l w h hn hL
  have Ho : Hid (f.ok = true → (onlyR f).inn) := fun h => only_inn h
  have DE : Hid (rusOk l = true → f.ok = true → ∀ base a cap B w, base ≤ w.heap.size → RuRow base w (.slice a l.length cap) l → B < base → Boxed w B #[.int .i64 (onlyR f).id, .int .i64 (onlyR f).prio, .int .i64 (onlyR f).snet, .int .i64 (onlyR f).sbits, .int .i64 (onlyR f).dnet, .int .i64 (onlyR f).dbits, .int .i64 (onlyR f).proto, .int .i64 (onlyR f).low, .int .i64 (onlyR f).high, .int .i64 (onlyR f).cls] 136 →
      Calls Tryz.prog 198 #[.slice a l.length cap, .func (.func 200) #[] #[.pointer (some ⟨B, 0, none⟩)]] w fun e w' => (∃ v', e = .returned v' ∧ RuRow base w' v' (l.filter fun r => r.hits f)) ∧ Below base w w') := by
    show rusOk l = true → f.ok = true → _
    intro h1 h2 base a cap B w hb hr hB hbx
    have := implDeleteRu base a cap l 200 #[] #[.pointer (some ⟨B, 0, none⟩)] (fun k => k = B) (fun r => r.ok = true) (fun r => !r.cov (onlyR f)) w hL hb hr (rus_mem h1) (fun k hk => by subst hk; exact hB) (classTells (onlyR f) (only_inn h2) B w hbx)
    have e : (l.filter fun r => !(!r.cov (onlyR f))) = l.filter fun r => r.hits f := by
      apply List.filter_congr
      intro r hr
      rw [Bool.not_not, Ru.cov_hits (rus_mem h1 r hr)]
    rw [e] at this
    exact this
  have FO : Hid (rusOk l = true → ∀ (v : Value) base w, RuRow base w v (l.filter fun r => r.hits f) → Calls Tryz.prog 202 #[v] w fun e w' => (∃ m : Ru, e = .returned m.val ∧ m.cls = classL l f) ∧ Below w.heap.size w w') := by
    show rusOk l = true → _
    intro h1 v base w hr
    obtain ⟨a, cap, rfl⟩ := hr.shape
    refine (implFore a cap (l.filter fun r => r.hits f) w (Nat.le_trans (List.length_filter_le _ _) (rus_len h1)) hr.at).mono fun e w' q => ?_
    exact ⟨⟨_, q.1, class_front l f⟩, q.2⟩
  have Rsh : Hid (∀ base w v, RuRow base w v l → ∃ a c, v = .slice a l.length c) := fun base w v h => h.shape
  generalize (fun r : Ru => r.hits f) = hp at DE FO
  generalize rusOk l = o1 at A1 DE FO Hv
  generalize f.ok = o2 at A2 DE Hv Ho
  generalize classL l f = cv at FO Hv
  generalize classV l f = res at Hv ⊢
  obtain ⟨f0, g1, ft, fs, fd, fp, sp, dp, mk, sm, fb⟩ := f
  simp only [Fr.val, onlyR, Ru.val] at A2 A3 DE hc hT ⊢
  generalize ft.length = nf at A2 A3 ⊢
  generalize l.length = len at A1 CL DE Rsh ⊢
  have A1' : Hid _ := A1
  have A2' : Hid _ := A2
  have A3' : Hid _ := A3
  have CL' : Hid _ := CL
  clear A1 A2 A3 CL hT hL Ho
  have hmf : ∀ (fn : Fn) (first cap : Array Value) (w : World), (Instr.makeFunc fn first cap).run Tryz.prog w = .ok (.func fn first cap) w := fun _ _ _ _ => rfl
  have X0 : Hid (Below w.heap.size w (w.alloc (.cells #[.int .i64 f0, .int .i64 g1, .slice af nf cf, .int .i64 fs, .int .i64 fd, .int .i64 fp, .int .i64 sp, .int .i64 dp, .int .i64 mk, .int .i64 sm, .string fb] 175)) ∧ Boxed (w.alloc (.cells #[.int .i64 f0, .int .i64 g1, .slice af nf cf, .int .i64 fs, .int .i64 fd, .int .i64 fp, .int .i64 sp, .int .i64 dp, .int .i64 mk, .int .i64 sm, .string fb] 175)) w.heap.size #[.int .i64 f0, .int .i64 g1, .slice af nf cf, .int .i64 fs, .int .i64 fd, .int .i64 fp, .int .i64 sp, .int .i64 dp, .int .i64 mk, .int .i64 sm, .string fb] 175 ∧ RusAt (w.alloc (.cells #[.int .i64 f0, .int .i64 g1, .slice af nf cf, .int .i64 fs, .int .i64 fd, .int .i64 fp, .int .i64 sp, .int .i64 dp, .int .i64 mk, .int .i64 sm, .string fb] 175)) a0 l ∧ IntsAt (w.alloc (.cells #[.int .i64 f0, .int .i64 g1, .slice af nf cf, .int .i64 fs, .int .i64 fd, .int .i64 fp, .int .i64 sp, .int .i64 dp, .int .i64 mk, .int .i64 sm, .string fb] 175)) af ft) := ⟨(Below.refl _ w).alloc (Nat.le_refl _) _, Boxed.new _ _ _, h.out.alloc _, hc.out.alloc _⟩
  go_enter Tryz.func134, Tryz.ntmps134
  go_wp2_with fail
  refine (A1'.out _ X0.out.2.2.1).mono ?_
  rintro e w1 ⟨rfl, q⟩
  have X1 : Hid (Below w.heap.size w w1 ∧ Boxed w1 w.heap.size #[.int .i64 f0, .int .i64 g1, .slice af nf cf, .int .i64 fs, .int .i64 fd, .int .i64 fp, .int .i64 sp, .int .i64 dp, .int .i64 mk, .int .i64 sm, .string fb] 175 ∧ RusAt w1 a0 l ∧ IntsAt w1 af ft) := ⟨X0.out.1.trans (q.mono X0.out.1.size), X0.out.2.1.below X0.out.2.1.under q, X0.out.2.2.1.below q, ints_bel X0.out.2.2.2 q⟩
  clear q X0
  cases o1
  · have e : Hid (res = -1) := by show res = -1; rw [Hv.out]; simp
    go_wp2
    go_ret
    exact ⟨by rw [e.out]; rfl, X1.out.1⟩
  have yw1_0 : w1.cell? ⟨w.heap.size, 0, none⟩ = some (.int .i64 f0) := X1.out.2.1.cell 0 rfl
  have yw1_1 : w1.cell? ⟨w.heap.size, 1, none⟩ = some (.int .i64 g1) := X1.out.2.1.cell 1 rfl
  have yw1_2 : w1.cell? ⟨w.heap.size, 2, none⟩ = some (.slice af nf cf) := X1.out.2.1.cell 2 rfl
  have yw1_3 : w1.cell? ⟨w.heap.size, 3, none⟩ = some (.int .i64 fs) := X1.out.2.1.cell 3 rfl
  have yw1_4 : w1.cell? ⟨w.heap.size, 4, none⟩ = some (.int .i64 fd) := X1.out.2.1.cell 4 rfl
  have yw1_5 : w1.cell? ⟨w.heap.size, 5, none⟩ = some (.int .i64 fp) := X1.out.2.1.cell 5 rfl
  have yw1_6 : w1.cell? ⟨w.heap.size, 6, none⟩ = some (.int .i64 sp) := X1.out.2.1.cell 6 rfl
  have yw1_7 : w1.cell? ⟨w.heap.size, 7, none⟩ = some (.int .i64 dp) := X1.out.2.1.cell 7 rfl
  have yw1_8 : w1.cell? ⟨w.heap.size, 8, none⟩ = some (.int .i64 mk) := X1.out.2.1.cell 8 rfl
  have yw1_9 : w1.cell? ⟨w.heap.size, 9, none⟩ = some (.int .i64 sm) := X1.out.2.1.cell 9 rfl
  have yw1_10 : w1.cell? ⟨w.heap.size, 10, none⟩ = some (.string fb) := X1.out.2.1.cell 10 rfl
  go_wp2_with fail
  refine (A2'.out _ X1.out.2.2.2).mono ?_
  rintro e w2 ⟨rfl, q⟩
  have X2 : Hid (Below w.heap.size w w2 ∧ Boxed w2 w.heap.size #[.int .i64 f0, .int .i64 g1, .slice af nf cf, .int .i64 fs, .int .i64 fd, .int .i64 fp, .int .i64 sp, .int .i64 dp, .int .i64 mk, .int .i64 sm, .string fb] 175 ∧ RusAt w2 a0 l) := ⟨X1.out.1.trans (q.mono X1.out.1.size), X1.out.2.1.below X1.out.2.1.under q, X1.out.2.2.1.below q⟩
  clear q X1 yw1_0 yw1_1 yw1_2 yw1_3 yw1_4 yw1_5 yw1_6 yw1_7 yw1_8 yw1_9 yw1_10
  cases o2
  · have e : Hid (res = -1) := by show res = -1; rw [Hv.out]; simp
    go_wp2
    go_ret
    exact ⟨by rw [e.out]; rfl, X2.out.1⟩
  have e : Hid (res = cv) := by show res = cv; rw [Hv.out]; simp
  have DE1 := DE.out (by trivial) (by trivial)
  have FO1 := FO.out (by trivial)
  have DE2 : Hid _ := DE1
  have FO2 : Hid _ := FO1
  clear DE1 FO1
  clear Hv DE FO
  have yw2_0 : w2.cell? ⟨w.heap.size, 0, none⟩ = some (.int .i64 f0) := X2.out.2.1.cell 0 rfl
  have yw2_1 : w2.cell? ⟨w.heap.size, 1, none⟩ = some (.int .i64 g1) := X2.out.2.1.cell 1 rfl
  have yw2_2 : w2.cell? ⟨w.heap.size, 2, none⟩ = some (.slice af nf cf) := X2.out.2.1.cell 2 rfl
  have yw2_3 : w2.cell? ⟨w.heap.size, 3, none⟩ = some (.int .i64 fs) := X2.out.2.1.cell 3 rfl
  have yw2_4 : w2.cell? ⟨w.heap.size, 4, none⟩ = some (.int .i64 fd) := X2.out.2.1.cell 4 rfl
  have yw2_5 : w2.cell? ⟨w.heap.size, 5, none⟩ = some (.int .i64 fp) := X2.out.2.1.cell 5 rfl
  have yw2_6 : w2.cell? ⟨w.heap.size, 6, none⟩ = some (.int .i64 sp) := X2.out.2.1.cell 6 rfl
  have yw2_7 : w2.cell? ⟨w.heap.size, 7, none⟩ = some (.int .i64 dp) := X2.out.2.1.cell 7 rfl
  have yw2_8 : w2.cell? ⟨w.heap.size, 8, none⟩ = some (.int .i64 mk) := X2.out.2.1.cell 8 rfl
  have yw2_9 : w2.cell? ⟨w.heap.size, 9, none⟩ = some (.int .i64 sm) := X2.out.2.1.cell 9 rfl
  have yw2_10 : w2.cell? ⟨w.heap.size, 10, none⟩ = some (.string fb) := X2.out.2.1.cell 10 rfl
  go_wp2_with fail
  refine (A3'.out _).mono ?_
  rintro e w3 ⟨rfl, q⟩
  have X3 : Hid (Below w.heap.size w w3 ∧ RusAt w3 a0 l) := ⟨X2.out.1.trans (q.mono X2.out.1.size), X2.out.2.2.below q⟩
  clear q X2 yw2_0 yw2_1 yw2_2 yw2_3 yw2_4 yw2_5 yw2_6 yw2_7 yw2_8 yw2_9 yw2_10
  go_wp2_with fail
  have X4 : Hid (Below w.heap.size w (w3.alloc (.cells #[.int .i64 0, .int .i64 0, .int .i64 fs, .int .i64 32, .int .i64 fd, .int .i64 32, .int .i64 fp, .int .i64 dp, .int .i64 dp, .int .i64 0] 136)) ∧ RusAt (w3.alloc (.cells #[.int .i64 0, .int .i64 0, .int .i64 fs, .int .i64 32, .int .i64 fd, .int .i64 32, .int .i64 fp, .int .i64 dp, .int .i64 dp, .int .i64 0] 136)) a0 l ∧ Boxed (w3.alloc (.cells #[.int .i64 0, .int .i64 0, .int .i64 fs, .int .i64 32, .int .i64 fd, .int .i64 32, .int .i64 fp, .int .i64 dp, .int .i64 dp, .int .i64 0] 136)) w3.heap.size #[.int .i64 0, .int .i64 0, .int .i64 fs, .int .i64 32, .int .i64 fd, .int .i64 32, .int .i64 fp, .int .i64 dp, .int .i64 dp, .int .i64 0] 136) := ⟨X3.out.1.alloc X3.out.1.size _, X3.out.2.alloc _, Boxed.new _ _ _⟩
  obtain ⟨B, hB⟩ : ∃ B, w3.heap.size = B := ⟨_, rfl⟩
  rw [hB] at X4 ⊢
  generalize w3.alloc (.cells #[.int .i64 0, .int .i64 0, .int .i64 fs, .int .i64 32, .int .i64 fd, .int .i64 32, .int .i64 fp, .int .i64 dp, .int .i64 dp, .int .i64 0] 136) = w4 at X4 ⊢
  clear X3 hB
  refine (CL'.out _ X4.out.2.1).mono ?_
  rintro e w5 ⟨v5, rfl, r5, b5⟩
  obtain ⟨a5, c5, rfl⟩ := Rsh.out _ _ _ r5
  have X5 : Hid (Below w.heap.size w w5 ∧ RuRow w4.heap.size w5 (.slice a5 len c5) l ∧ Boxed w5 B #[.int .i64 0, .int .i64 0, .int .i64 fs, .int .i64 32, .int .i64 fd, .int .i64 32, .int .i64 fp, .int .i64 dp, .int .i64 dp, .int .i64 0] 136 ∧ B < w4.heap.size ∧ w4.heap.size ≤ w5.heap.size) := ⟨X4.out.1.trans (b5.mono X4.out.1.size), r5, X4.out.2.2.below X4.out.2.2.under b5, X4.out.2.2.under, b5.size⟩
  have Hs4 : Hid (w.heap.size ≤ w4.heap.size) := X4.out.1.size
  clear r5 b5 X4
  go_wp2_with fail
  refine (DE2.out w4.heap.size a5 c5 B w5 X5.out.2.2.2.2 X5.out.2.1 X5.out.2.2.2.1 X5.out.2.2.1).mono ?_
  rintro e w6 ⟨⟨v6, rfl, r6⟩, b6⟩
  have X6 : Hid (Below w.heap.size w w6 ∧ RuRow w4.heap.size w6 v6 (l.filter hp)) := ⟨X5.out.1.trans (b6.mono Hs4.out), r6⟩
  clear r6 b6 X5
  go_wp2_with fail
  refine (FO2.out v6 _ w6 X6.out.2).mono ?_
  rintro e w7 ⟨⟨m, rfl, hm⟩, b7⟩
  have X7 : Hid (Below w.heap.size w w7) := X6.out.1.trans (b7.mono X6.out.1.size)
  have Hm : Hid (m.cls = cv) := hm
  clear b7 X6 hm
  have hfd := fun w => run_fieldC m w
  unfold Ru.val
  go_wp2
  go_ret
  exact ⟨by rw [e.out, ← Hm.out]; rfl, X7.out⟩
end Go.Proofs.YtgebghkcikmfaaaGreatDoor
