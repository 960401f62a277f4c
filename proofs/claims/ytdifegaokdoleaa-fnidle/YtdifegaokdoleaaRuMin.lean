/-
  The walk of slices.MinFunc over the program's order of rules, and of the foremost one. By the verifier, by program.
-/
import Derived.Test.YtdifegaokdoleaaM10RuOrder
import Derived.BigQuiet
import Derived.Laws.Rows
import Derived.Shelf.Abstract
namespace Go.Proofs.Ytdifegaokdoleaa
open Go.RowKit Go.Shelf

/-- The one of the first k that goes ahead. -/
def frontK (l : List Ru) : Nat → Ru
  | 0 => ruAt l 0
  | k + 1 => if (ruAt l k).ahead (frontK l k) = true then ruAt l k else frontK l k
theorem Ru.ahead_self (a : Ru) : a.ahead a = false := by unfold Ru.ahead; exact decide_eq_false (by omega)
theorem frontK_one (l : List Ru) : frontK l 1 = ruAt l 0 := by simp [frontK, Ru.ahead_self]

theorem boxed_sets {w : World} {B : Nat} {t : TypeId} (m r : Ru) (x : Boxed w B #[.int .i64 m.id, .int .i64 m.prio, .int .i64 m.snet, .int .i64 m.sbits, .int .i64 m.dnet, .int .i64 m.dbits, .int .i64 m.proto, .int .i64 m.low, .int .i64 m.high, .int .i64 m.cls] t) : Boxed ((((((((((w.setCell ⟨B, 0, none⟩ (.int .i64 r.id)).setCell ⟨B, 1, none⟩ (.int .i64 r.prio)).setCell ⟨B, 2, none⟩ (.int .i64 r.snet)).setCell ⟨B, 3, none⟩ (.int .i64 r.sbits)).setCell ⟨B, 4, none⟩ (.int .i64 r.dnet)).setCell ⟨B, 5, none⟩ (.int .i64 r.dbits)).setCell ⟨B, 6, none⟩ (.int .i64 r.proto)).setCell ⟨B, 7, none⟩ (.int .i64 r.low)).setCell ⟨B, 8, none⟩ (.int .i64 r.high)).setCell ⟨B, 9, none⟩ (.int .i64 r.cls)) B #[.int .i64 r.id, .int .i64 r.prio, .int .i64 r.snet, .int .i64 r.sbits, .int .i64 r.dnet, .int .i64 r.dbits, .int .i64 r.proto, .int .i64 r.low, .int .i64 r.high, .int .i64 r.cls] t := by
  have x1 : Boxed (w.setCell ⟨B, 0, none⟩ (.int .i64 r.id)) B #[.int .i64 r.id, .int .i64 m.prio, .int .i64 m.snet, .int .i64 m.sbits, .int .i64 m.dnet, .int .i64 m.dbits, .int .i64 m.proto, .int .i64 m.low, .int .i64 m.high, .int .i64 m.cls] t := by have := x.put 0 (.int .i64 r.id); simpa using this
  have x2 : Boxed ((w.setCell ⟨B, 0, none⟩ (.int .i64 r.id)).setCell ⟨B, 1, none⟩ (.int .i64 r.prio)) B #[.int .i64 r.id, .int .i64 r.prio, .int .i64 m.snet, .int .i64 m.sbits, .int .i64 m.dnet, .int .i64 m.dbits, .int .i64 m.proto, .int .i64 m.low, .int .i64 m.high, .int .i64 m.cls] t := by have := x1.put 1 (.int .i64 r.prio); simpa using this
  have x3 : Boxed (((w.setCell ⟨B, 0, none⟩ (.int .i64 r.id)).setCell ⟨B, 1, none⟩ (.int .i64 r.prio)).setCell ⟨B, 2, none⟩ (.int .i64 r.snet)) B #[.int .i64 r.id, .int .i64 r.prio, .int .i64 r.snet, .int .i64 m.sbits, .int .i64 m.dnet, .int .i64 m.dbits, .int .i64 m.proto, .int .i64 m.low, .int .i64 m.high, .int .i64 m.cls] t := by have := x2.put 2 (.int .i64 r.snet); simpa using this
  have x4 : Boxed ((((w.setCell ⟨B, 0, none⟩ (.int .i64 r.id)).setCell ⟨B, 1, none⟩ (.int .i64 r.prio)).setCell ⟨B, 2, none⟩ (.int .i64 r.snet)).setCell ⟨B, 3, none⟩ (.int .i64 r.sbits)) B #[.int .i64 r.id, .int .i64 r.prio, .int .i64 r.snet, .int .i64 r.sbits, .int .i64 m.dnet, .int .i64 m.dbits, .int .i64 m.proto, .int .i64 m.low, .int .i64 m.high, .int .i64 m.cls] t := by have := x3.put 3 (.int .i64 r.sbits); simpa using this
  have x5 : Boxed (((((w.setCell ⟨B, 0, none⟩ (.int .i64 r.id)).setCell ⟨B, 1, none⟩ (.int .i64 r.prio)).setCell ⟨B, 2, none⟩ (.int .i64 r.snet)).setCell ⟨B, 3, none⟩ (.int .i64 r.sbits)).setCell ⟨B, 4, none⟩ (.int .i64 r.dnet)) B #[.int .i64 r.id, .int .i64 r.prio, .int .i64 r.snet, .int .i64 r.sbits, .int .i64 r.dnet, .int .i64 m.dbits, .int .i64 m.proto, .int .i64 m.low, .int .i64 m.high, .int .i64 m.cls] t := by have := x4.put 4 (.int .i64 r.dnet); simpa using this
  have x6 : Boxed ((((((w.setCell ⟨B, 0, none⟩ (.int .i64 r.id)).setCell ⟨B, 1, none⟩ (.int .i64 r.prio)).setCell ⟨B, 2, none⟩ (.int .i64 r.snet)).setCell ⟨B, 3, none⟩ (.int .i64 r.sbits)).setCell ⟨B, 4, none⟩ (.int .i64 r.dnet)).setCell ⟨B, 5, none⟩ (.int .i64 r.dbits)) B #[.int .i64 r.id, .int .i64 r.prio, .int .i64 r.snet, .int .i64 r.sbits, .int .i64 r.dnet, .int .i64 r.dbits, .int .i64 m.proto, .int .i64 m.low, .int .i64 m.high, .int .i64 m.cls] t := by have := x5.put 5 (.int .i64 r.dbits); simpa using this
  have x7 : Boxed (((((((w.setCell ⟨B, 0, none⟩ (.int .i64 r.id)).setCell ⟨B, 1, none⟩ (.int .i64 r.prio)).setCell ⟨B, 2, none⟩ (.int .i64 r.snet)).setCell ⟨B, 3, none⟩ (.int .i64 r.sbits)).setCell ⟨B, 4, none⟩ (.int .i64 r.dnet)).setCell ⟨B, 5, none⟩ (.int .i64 r.dbits)).setCell ⟨B, 6, none⟩ (.int .i64 r.proto)) B #[.int .i64 r.id, .int .i64 r.prio, .int .i64 r.snet, .int .i64 r.sbits, .int .i64 r.dnet, .int .i64 r.dbits, .int .i64 r.proto, .int .i64 m.low, .int .i64 m.high, .int .i64 m.cls] t := by have := x6.put 6 (.int .i64 r.proto); simpa using this
  have x8 : Boxed ((((((((w.setCell ⟨B, 0, none⟩ (.int .i64 r.id)).setCell ⟨B, 1, none⟩ (.int .i64 r.prio)).setCell ⟨B, 2, none⟩ (.int .i64 r.snet)).setCell ⟨B, 3, none⟩ (.int .i64 r.sbits)).setCell ⟨B, 4, none⟩ (.int .i64 r.dnet)).setCell ⟨B, 5, none⟩ (.int .i64 r.dbits)).setCell ⟨B, 6, none⟩ (.int .i64 r.proto)).setCell ⟨B, 7, none⟩ (.int .i64 r.low)) B #[.int .i64 r.id, .int .i64 r.prio, .int .i64 r.snet, .int .i64 r.sbits, .int .i64 r.dnet, .int .i64 r.dbits, .int .i64 r.proto, .int .i64 r.low, .int .i64 m.high, .int .i64 m.cls] t := by have := x7.put 7 (.int .i64 r.low); simpa using this
  have x9 : Boxed (((((((((w.setCell ⟨B, 0, none⟩ (.int .i64 r.id)).setCell ⟨B, 1, none⟩ (.int .i64 r.prio)).setCell ⟨B, 2, none⟩ (.int .i64 r.snet)).setCell ⟨B, 3, none⟩ (.int .i64 r.sbits)).setCell ⟨B, 4, none⟩ (.int .i64 r.dnet)).setCell ⟨B, 5, none⟩ (.int .i64 r.dbits)).setCell ⟨B, 6, none⟩ (.int .i64 r.proto)).setCell ⟨B, 7, none⟩ (.int .i64 r.low)).setCell ⟨B, 8, none⟩ (.int .i64 r.high)) B #[.int .i64 r.id, .int .i64 r.prio, .int .i64 r.snet, .int .i64 r.sbits, .int .i64 r.dnet, .int .i64 r.dbits, .int .i64 r.proto, .int .i64 r.low, .int .i64 r.high, .int .i64 m.cls] t := by have := x8.put 8 (.int .i64 r.high); simpa using this
  have x10 : Boxed ((((((((((w.setCell ⟨B, 0, none⟩ (.int .i64 r.id)).setCell ⟨B, 1, none⟩ (.int .i64 r.prio)).setCell ⟨B, 2, none⟩ (.int .i64 r.snet)).setCell ⟨B, 3, none⟩ (.int .i64 r.sbits)).setCell ⟨B, 4, none⟩ (.int .i64 r.dnet)).setCell ⟨B, 5, none⟩ (.int .i64 r.dbits)).setCell ⟨B, 6, none⟩ (.int .i64 r.proto)).setCell ⟨B, 7, none⟩ (.int .i64 r.low)).setCell ⟨B, 8, none⟩ (.int .i64 r.high)).setCell ⟨B, 9, none⟩ (.int .i64 r.cls)) B #[.int .i64 r.id, .int .i64 r.prio, .int .i64 r.snet, .int .i64 r.sbits, .int .i64 r.dnet, .int .i64 r.dbits, .int .i64 r.proto, .int .i64 r.low, .int .i64 r.high, .int .i64 r.cls] t := by have := x9.put 9 (.int .i64 r.cls); simpa using this
  exact x10
theorem far_sets {w : World} {B k : Nat} {cs : Array Value} {t : TypeId} (r : Ru) (x : Boxed w k cs t) (hne : k ≠ B) : Boxed ((((((((((w.setCell ⟨B, 0, none⟩ (.int .i64 r.id)).setCell ⟨B, 1, none⟩ (.int .i64 r.prio)).setCell ⟨B, 2, none⟩ (.int .i64 r.snet)).setCell ⟨B, 3, none⟩ (.int .i64 r.sbits)).setCell ⟨B, 4, none⟩ (.int .i64 r.dnet)).setCell ⟨B, 5, none⟩ (.int .i64 r.dbits)).setCell ⟨B, 6, none⟩ (.int .i64 r.proto)).setCell ⟨B, 7, none⟩ (.int .i64 r.low)).setCell ⟨B, 8, none⟩ (.int .i64 r.high)).setCell ⟨B, 9, none⟩ (.int .i64 r.cls)) k cs t := ((((((((((x.far hne 0 _).far hne 1 _).far hne 2 _).far hne 3 _).far hne 4 _).far hne 5 _).far hne 6 _).far hne 7 _).far hne 8 _).far hne 9 _)
theorem below_sets {w0 w : World} {B n : Nat} (r : Ru) (x : Below n w0 w) (hb : n ≤ B) : Below n w0 ((((((((((w.setCell ⟨B, 0, none⟩ (.int .i64 r.id)).setCell ⟨B, 1, none⟩ (.int .i64 r.prio)).setCell ⟨B, 2, none⟩ (.int .i64 r.snet)).setCell ⟨B, 3, none⟩ (.int .i64 r.sbits)).setCell ⟨B, 4, none⟩ (.int .i64 r.dnet)).setCell ⟨B, 5, none⟩ (.int .i64 r.dbits)).setCell ⟨B, 6, none⟩ (.int .i64 r.proto)).setCell ⟨B, 7, none⟩ (.int .i64 r.low)).setCell ⟨B, 8, none⟩ (.int .i64 r.high)).setCell ⟨B, 9, none⟩ (.int .i64 r.cls)) := ((((((((((x.setCell hb _).setCell hb _).setCell hb _).setCell hb _).setCell hb _).setCell hb _).setCell hb _).setCell hb _).setCell hb _).setCell hb _)
set_option maxHeartbeats 6400000 in
set_option maxRecDepth 100000 in
theorem implMin (a : Option Addr) (cap : Nat) (l : List Ru) (w : World) (hT : l.length ≤ 40) (h0 : 0 < l.length) (h : Hid (RusAt w a l)) :
    Calls Try.prog 64 #[.slice a l.length cap, .func (.func 54) #[] #[]] w fun e w' => e = .returned (frontK l l.length).val ∧ Below w.heap.size w w' := by
  have eg : ∀ args w, (callFunc 54 args).run Try.prog w = .ok (.enter 54 args) w := enters_of Try.func54 (by kernel_rfl) rfl
  obtain ⟨len, hlen⟩ : ∃ n, l.length = n := ⟨_, rfl⟩
  rw [hlen] at hT h0 ⊢
  have Hlen : Hid (l.length = len) := hlen
  clear hlen
  have hl1 : ¬ (len : Int) < 1 := by omega
  obtain ⟨b1, o1, ha1, hb1, -⟩ := h.out 0 (by rw [Hlen.out]; exact h0)
  subst ha1
  have Hb1 : Hid (b1 < w.heap.size) := hb1
  obtain ⟨r0, hr0⟩ : ∃ r0, ruAt l 0 = r0 := ⟨_, rfl⟩
  obtain ⟨c0, c1, c2, c3, c4, c5, c6, c7, c8, c9⟩ := h.out.cells (k := 0) (by rw [Hlen.out]; exact h0)
  rw [hr0] at c0 c1 c2 c3 c4 c5 c6 c7 c8 c9
  simp only [Nat.zero_mul, Nat.add_zero] at c0 c1 c2 c3 c4 c5 c6 c7 c8 c9
  have X0 : Hid (Below w.heap.size w ((w.alloc (.cells #[.int .i64 0, .int .i64 0, .int .i64 0, .int .i64 0, .int .i64 0, .int .i64 0, .int .i64 0, .int .i64 0, .int .i64 0, .int .i64 0] 32)).alloc (.cells #[.int .i64 r0.id, .int .i64 r0.prio, .int .i64 r0.snet, .int .i64 r0.sbits, .int .i64 r0.dnet, .int .i64 r0.dbits, .int .i64 r0.proto, .int .i64 r0.low, .int .i64 r0.high, .int .i64 r0.cls] 32)) ∧ Boxed ((w.alloc (.cells #[.int .i64 0, .int .i64 0, .int .i64 0, .int .i64 0, .int .i64 0, .int .i64 0, .int .i64 0, .int .i64 0, .int .i64 0, .int .i64 0] 32)).alloc (.cells #[.int .i64 r0.id, .int .i64 r0.prio, .int .i64 r0.snet, .int .i64 r0.sbits, .int .i64 r0.dnet, .int .i64 r0.dbits, .int .i64 r0.proto, .int .i64 r0.low, .int .i64 r0.high, .int .i64 r0.cls] 32)) (w.heap.size + 1) #[.int .i64 r0.id, .int .i64 r0.prio, .int .i64 r0.snet, .int .i64 r0.sbits, .int .i64 r0.dnet, .int .i64 r0.dbits, .int .i64 r0.proto, .int .i64 r0.low, .int .i64 r0.high, .int .i64 r0.cls] 32 ∧ Boxed ((w.alloc (.cells #[.int .i64 0, .int .i64 0, .int .i64 0, .int .i64 0, .int .i64 0, .int .i64 0, .int .i64 0, .int .i64 0, .int .i64 0, .int .i64 0] 32)).alloc (.cells #[.int .i64 r0.id, .int .i64 r0.prio, .int .i64 r0.snet, .int .i64 r0.sbits, .int .i64 r0.dnet, .int .i64 r0.dbits, .int .i64 r0.proto, .int .i64 r0.low, .int .i64 r0.high, .int .i64 r0.cls] 32)) w.heap.size #[.int .i64 0, .int .i64 0, .int .i64 0, .int .i64 0, .int .i64 0, .int .i64 0, .int .i64 0, .int .i64 0, .int .i64 0, .int .i64 0] 32) :=
    ⟨((Below.refl _ w).alloc (Nat.le_refl _) _).alloc (by simp) _, by have := Boxed.new (w.alloc (.cells #[.int .i64 0, .int .i64 0, .int .i64 0, .int .i64 0, .int .i64 0, .int .i64 0, .int .i64 0, .int .i64 0, .int .i64 0, .int .i64 0] 32)) #[.int .i64 r0.id, .int .i64 r0.prio, .int .i64 r0.snet, .int .i64 r0.sbits, .int .i64 r0.dnet, .int .i64 r0.dbits, .int .i64 r0.proto, .int .i64 r0.low, .int .i64 r0.high, .int .i64 r0.cls] 32; simpa using this, (Boxed.new _ _ _).more _⟩
  go_enter Try.func64, Try.ntmps64
  go_wp2
  clear c0 c1 c2 c3 c4 c5 c6 c7 c8 c9
  generalize (w.alloc (.cells #[.int .i64 0, .int .i64 0, .int .i64 0, .int .i64 0, .int .i64 0, .int .i64 0, .int .i64 0, .int .i64 0, .int .i64 0, .int .i64 0] 32)).alloc (.cells #[.int .i64 r0.id, .int .i64 r0.prio, .int .i64 r0.snet, .int .i64 r0.sbits, .int .i64 r0.dnet, .int .i64 r0.dbits, .int .i64 r0.proto, .int .i64 r0.low, .int .i64 r0.high, .int .i64 r0.cls] 32) = W at X0 ⊢
  go_loopw [6] (fun i wr => ∃ k : Nat, 1 ≤ k ∧ k ≤ len ∧ i = .int .i64 k ∧ Hid (∃ m : Ru, m = frontK l k ∧ Below w.heap.size w wr ∧ Boxed wr (w.heap.size + 1) #[.int .i64 m.id, .int .i64 m.prio, .int .i64 m.snet, .int .i64 m.sbits, .int .i64 m.dnet, .int .i64 m.dbits, .int .i64 m.proto, .int .i64 m.low, .int .i64 m.high, .int .i64 m.cls] 32 ∧ Boxed wr w.heap.size #[.int .i64 0, .int .i64 0, .int .i64 0, .int .i64 0, .int .i64 0, .int .i64 0, .int .i64 0, .int .i64 0, .int .i64 0, .int .i64 0] 32)) (fun i _ => len - (intOf i).toNat)
  case atStart => exact ⟨1, Nat.le_refl _, h0, rfl, r0, by rw [frontK_one, hr0], X0.out⟩
  case round =>
    obtain ⟨k, hk1, hk, rfl, HI⟩ := hrel
    obtain ⟨m, hm, hbel, hmb, hzb⟩ := HI.out
    have HX : Hid (Below w.heap.size w wr ∧ Boxed wr (w.heap.size + 1) #[.int .i64 m.id, .int .i64 m.prio, .int .i64 m.snet, .int .i64 m.sbits, .int .i64 m.dnet, .int .i64 m.dbits, .int .i64 m.proto, .int .i64 m.low, .int .i64 m.high, .int .i64 m.cls] 32 ∧ Boxed wr w.heap.size #[.int .i64 0, .int .i64 0, .int .i64 0, .int .i64 0, .int .i64 0, .int .i64 0, .int .i64 0, .int .i64 0, .int .i64 0, .int .i64 0] 32) := ⟨hbel, hmb, hzb⟩
    have Hm : Hid (m = frontK l k) := hm
    clear hm hbel hmb hzb HI
    by_cases hlt : k < len
    · have R : Hid (RusAt wr (some ⟨b1, o1, none⟩) l) := h.out.below HX.out.1
      have hlt' : (k : Int) < (len : Int) := by omega
      haveI : Nonempty (BelW wr.heap.size wr) := ⟨⟨wr, Below.refl _ _⟩⟩
      have f0 := fun p : BelW wr.heap.size wr => ((R.out.below p.h).cells (k := k) (by rw [Hlen.out]; exact hlt)).1
      have f1 := fun p : BelW wr.heap.size wr => ((R.out.below p.h).cells (k := k) (by rw [Hlen.out]; exact hlt)).2.1
      have f2 := fun p : BelW wr.heap.size wr => ((R.out.below p.h).cells (k := k) (by rw [Hlen.out]; exact hlt)).2.2.1
      have f3 := fun p : BelW wr.heap.size wr => ((R.out.below p.h).cells (k := k) (by rw [Hlen.out]; exact hlt)).2.2.2.1
      have f4 := fun p : BelW wr.heap.size wr => ((R.out.below p.h).cells (k := k) (by rw [Hlen.out]; exact hlt)).2.2.2.2.1
      have f5 := fun p : BelW wr.heap.size wr => ((R.out.below p.h).cells (k := k) (by rw [Hlen.out]; exact hlt)).2.2.2.2.2.1
      have f6 := fun p : BelW wr.heap.size wr => ((R.out.below p.h).cells (k := k) (by rw [Hlen.out]; exact hlt)).2.2.2.2.2.2.1
      have f7 := fun p : BelW wr.heap.size wr => ((R.out.below p.h).cells (k := k) (by rw [Hlen.out]; exact hlt)).2.2.2.2.2.2.2.1
      have f8 := fun p : BelW wr.heap.size wr => ((R.out.below p.h).cells (k := k) (by rw [Hlen.out]; exact hlt)).2.2.2.2.2.2.2.2.1
      have f9 := fun p : BelW wr.heap.size wr => ((R.out.below p.h).cells (k := k) (by rw [Hlen.out]; exact hlt)).2.2.2.2.2.2.2.2.2
      have g0 : ∀ p : BelW wr.heap.size wr, p.w'.cell? ⟨w.heap.size + 1, 0, none⟩ = some (.int .i64 m.id) := fun p => (HX.out.2.1.below HX.out.2.1.under p.h).cell 0 rfl
      have g1 : ∀ p : BelW wr.heap.size wr, p.w'.cell? ⟨w.heap.size + 1, 1, none⟩ = some (.int .i64 m.prio) := fun p => (HX.out.2.1.below HX.out.2.1.under p.h).cell 1 rfl
      have g2 : ∀ p : BelW wr.heap.size wr, p.w'.cell? ⟨w.heap.size + 1, 2, none⟩ = some (.int .i64 m.snet) := fun p => (HX.out.2.1.below HX.out.2.1.under p.h).cell 2 rfl
      have g3 : ∀ p : BelW wr.heap.size wr, p.w'.cell? ⟨w.heap.size + 1, 3, none⟩ = some (.int .i64 m.sbits) := fun p => (HX.out.2.1.below HX.out.2.1.under p.h).cell 3 rfl
      have g4 : ∀ p : BelW wr.heap.size wr, p.w'.cell? ⟨w.heap.size + 1, 4, none⟩ = some (.int .i64 m.dnet) := fun p => (HX.out.2.1.below HX.out.2.1.under p.h).cell 4 rfl
      have g5 : ∀ p : BelW wr.heap.size wr, p.w'.cell? ⟨w.heap.size + 1, 5, none⟩ = some (.int .i64 m.dbits) := fun p => (HX.out.2.1.below HX.out.2.1.under p.h).cell 5 rfl
      have g6 : ∀ p : BelW wr.heap.size wr, p.w'.cell? ⟨w.heap.size + 1, 6, none⟩ = some (.int .i64 m.proto) := fun p => (HX.out.2.1.below HX.out.2.1.under p.h).cell 6 rfl
      have g7 : ∀ p : BelW wr.heap.size wr, p.w'.cell? ⟨w.heap.size + 1, 7, none⟩ = some (.int .i64 m.low) := fun p => (HX.out.2.1.below HX.out.2.1.under p.h).cell 7 rfl
      have g8 : ∀ p : BelW wr.heap.size wr, p.w'.cell? ⟨w.heap.size + 1, 8, none⟩ = some (.int .i64 m.high) := fun p => (HX.out.2.1.below HX.out.2.1.under p.h).cell 8 rfl
      have g9 : ∀ p : BelW wr.heap.size wr, p.w'.cell? ⟨w.heap.size + 1, 9, none⟩ = some (.int .i64 m.cls) := fun p => (HX.out.2.1.below HX.out.2.1.under p.h).cell 9 rfl
      have Hs : Hid (frontK l (k + 1) = if (ruAt l k).ahead m = true then ruAt l k else m) := by
        show frontK l (k + 1) = _
        rw [Hm.out]; rfl
      have C := fun w => implRuOrder (ruAt l k) m w
      have Ha := ruOrd_ahead (ruAt l k) m
      generalize ruOrdV (ruAt l k) m = z at C Ha
      unfold Ru.val at C
      have C' : Hid _ := C
      clear C
      cases had : (ruAt l k).ahead m
      · rw [had] at Ha Hs
        have hz : ¬ z < 0 := of_decide_eq_false Ha
        simp only [Bool.false_eq_true, if_false] at Hs
        clear had Ha
        generalize ruAt l k = r at f0 f1 f2 f3 f4 f5 f6 f7 f8 f9 C'
        go_wp2
        refine region_below wr.heap.size (by kernel_rfl) (by kernel_rfl) ?_
        repeat (go_big_quiet_step ((go_at_call 54; refine quiet_below (Nat.le_refl _) (C'.out _))))
        refine wpQuiet_nil ?_
        intro wq hx
        have hq := BelW.out hx
        have B : Hid (∃ m : Ru, m = frontK l (k + 1) ∧ Below w.heap.size w wq ∧ Boxed wq (w.heap.size + 1) #[.int .i64 m.id, .int .i64 m.prio, .int .i64 m.snet, .int .i64 m.sbits, .int .i64 m.dnet, .int .i64 m.dbits, .int .i64 m.proto, .int .i64 m.low, .int .i64 m.high, .int .i64 m.cls] 32 ∧ Boxed wq w.heap.size #[.int .i64 0, .int .i64 0, .int .i64 0, .int .i64 0, .int .i64 0, .int .i64 0, .int .i64 0, .int .i64 0, .int .i64 0, .int .i64 0] 32) := ⟨m, Hs.out.symm, HX.out.1.trans (hq.mono HX.out.1.size), HX.out.2.1.below HX.out.2.1.under hq, HX.out.2.2.below HX.out.2.2.under hq⟩
        clear hx hq f0 f1 f2 f3 f4 f5 f6 f7 f8 f9 g0 g1 g2 g3 g4 g5 g6 g7 g8 g9
        go_wp2
        go_roundw
        case rel => exact ⟨k + 1, by omega, by omega, by go_num, B⟩
        case measure => simp [intOf]; omega
      · rw [had] at Ha Hs
        have hz : z < 0 := of_decide_eq_true Ha
        simp only [if_true] at Hs
        clear had Ha
        obtain ⟨r, hr⟩ : ∃ r, ruAt l k = r := ⟨_, rfl⟩
        have Hr : Hid (ruAt l k = r) := hr
        rw [hr] at f0 f1 f2 f3 f4 f5 f6 f7 f8 f9 C' Hs
        clear hr
        go_wp2
        refine region_below wr.heap.size (by kernel_rfl) (by kernel_rfl) ?_
        repeat (go_big_quiet_step ((go_at_call 54; refine quiet_below (Nat.le_refl _) (C'.out _))))
        refine wpQuiet_nil ?_
        intro wq hx
        have hq := BelW.out hx
        have Q : Hid (Below w.heap.size w wq ∧ Boxed wq (w.heap.size + 1) #[.int .i64 m.id, .int .i64 m.prio, .int .i64 m.snet, .int .i64 m.sbits, .int .i64 m.dnet, .int .i64 m.dbits, .int .i64 m.proto, .int .i64 m.low, .int .i64 m.high, .int .i64 m.cls] 32 ∧ Boxed wq w.heap.size #[.int .i64 0, .int .i64 0, .int .i64 0, .int .i64 0, .int .i64 0, .int .i64 0, .int .i64 0, .int .i64 0, .int .i64 0, .int .i64 0] 32) := ⟨HX.out.1.trans (hq.mono HX.out.1.size), HX.out.2.1.below HX.out.2.1.under hq, HX.out.2.2.below HX.out.2.2.under hq⟩
        clear hx hq f0 f1 f2 f3 f4 f5 f6 f7 f8 f9 g0 g1 g2 g3 g4 g5 g6 g7 g8 g9
        have R2 := (h.out.below Q.out.1).cells (k := k) (by rw [Hlen.out]; exact hlt)
        rw [Hr.out] at R2
        obtain ⟨c0, c1, c2, c3, c4, c5, c6, c7, c8, c9⟩ := R2
        have d0 : wq.cell? ⟨w.heap.size + 1, 0, none⟩ = some (.int .i64 m.id) := Q.out.2.1.cell 0 rfl
        have d1 : wq.cell? ⟨w.heap.size + 1, 1, none⟩ = some (.int .i64 m.prio) := Q.out.2.1.cell 1 rfl
        have d2 : wq.cell? ⟨w.heap.size + 1, 2, none⟩ = some (.int .i64 m.snet) := Q.out.2.1.cell 2 rfl
        have d3 : wq.cell? ⟨w.heap.size + 1, 3, none⟩ = some (.int .i64 m.sbits) := Q.out.2.1.cell 3 rfl
        have d4 : wq.cell? ⟨w.heap.size + 1, 4, none⟩ = some (.int .i64 m.dnet) := Q.out.2.1.cell 4 rfl
        have d5 : wq.cell? ⟨w.heap.size + 1, 5, none⟩ = some (.int .i64 m.dbits) := Q.out.2.1.cell 5 rfl
        have d6 : wq.cell? ⟨w.heap.size + 1, 6, none⟩ = some (.int .i64 m.proto) := Q.out.2.1.cell 6 rfl
        have d7 : wq.cell? ⟨w.heap.size + 1, 7, none⟩ = some (.int .i64 m.low) := Q.out.2.1.cell 7 rfl
        have d8 : wq.cell? ⟨w.heap.size + 1, 8, none⟩ = some (.int .i64 m.high) := Q.out.2.1.cell 8 rfl
        have d9 : wq.cell? ⟨w.heap.size + 1, 9, none⟩ = some (.int .i64 m.cls) := Q.out.2.1.cell 9 rfl
        have i0 : wq.frozen? ⟨w.heap.size + 1, 0, none⟩ = false := Q.out.2.1.ice 0
        have i1 : wq.frozen? ⟨w.heap.size + 1, 1, none⟩ = false := Q.out.2.1.ice 1
        have i2 : wq.frozen? ⟨w.heap.size + 1, 2, none⟩ = false := Q.out.2.1.ice 2
        have i3 : wq.frozen? ⟨w.heap.size + 1, 3, none⟩ = false := Q.out.2.1.ice 3
        have i4 : wq.frozen? ⟨w.heap.size + 1, 4, none⟩ = false := Q.out.2.1.ice 4
        have i5 : wq.frozen? ⟨w.heap.size + 1, 5, none⟩ = false := Q.out.2.1.ice 5
        have i6 : wq.frozen? ⟨w.heap.size + 1, 6, none⟩ = false := Q.out.2.1.ice 6
        have i7 : wq.frozen? ⟨w.heap.size + 1, 7, none⟩ = false := Q.out.2.1.ice 7
        have i8 : wq.frozen? ⟨w.heap.size + 1, 8, none⟩ = false := Q.out.2.1.ice 8
        have i9 : wq.frozen? ⟨w.heap.size + 1, 9, none⟩ = false := Q.out.2.1.ice 9
        have B : Hid (∃ m : Ru, m = frontK l (k + 1) ∧ Below w.heap.size w ((((((((((wq.setCell ⟨w.heap.size + 1, 0, none⟩ (.int .i64 r.id)).setCell ⟨w.heap.size + 1, 1, none⟩ (.int .i64 r.prio)).setCell ⟨w.heap.size + 1, 2, none⟩ (.int .i64 r.snet)).setCell ⟨w.heap.size + 1, 3, none⟩ (.int .i64 r.sbits)).setCell ⟨w.heap.size + 1, 4, none⟩ (.int .i64 r.dnet)).setCell ⟨w.heap.size + 1, 5, none⟩ (.int .i64 r.dbits)).setCell ⟨w.heap.size + 1, 6, none⟩ (.int .i64 r.proto)).setCell ⟨w.heap.size + 1, 7, none⟩ (.int .i64 r.low)).setCell ⟨w.heap.size + 1, 8, none⟩ (.int .i64 r.high)).setCell ⟨w.heap.size + 1, 9, none⟩ (.int .i64 r.cls)) ∧ Boxed ((((((((((wq.setCell ⟨w.heap.size + 1, 0, none⟩ (.int .i64 r.id)).setCell ⟨w.heap.size + 1, 1, none⟩ (.int .i64 r.prio)).setCell ⟨w.heap.size + 1, 2, none⟩ (.int .i64 r.snet)).setCell ⟨w.heap.size + 1, 3, none⟩ (.int .i64 r.sbits)).setCell ⟨w.heap.size + 1, 4, none⟩ (.int .i64 r.dnet)).setCell ⟨w.heap.size + 1, 5, none⟩ (.int .i64 r.dbits)).setCell ⟨w.heap.size + 1, 6, none⟩ (.int .i64 r.proto)).setCell ⟨w.heap.size + 1, 7, none⟩ (.int .i64 r.low)).setCell ⟨w.heap.size + 1, 8, none⟩ (.int .i64 r.high)).setCell ⟨w.heap.size + 1, 9, none⟩ (.int .i64 r.cls)) (w.heap.size + 1) #[.int .i64 m.id, .int .i64 m.prio, .int .i64 m.snet, .int .i64 m.sbits, .int .i64 m.dnet, .int .i64 m.dbits, .int .i64 m.proto, .int .i64 m.low, .int .i64 m.high, .int .i64 m.cls] 32 ∧ Boxed ((((((((((wq.setCell ⟨w.heap.size + 1, 0, none⟩ (.int .i64 r.id)).setCell ⟨w.heap.size + 1, 1, none⟩ (.int .i64 r.prio)).setCell ⟨w.heap.size + 1, 2, none⟩ (.int .i64 r.snet)).setCell ⟨w.heap.size + 1, 3, none⟩ (.int .i64 r.sbits)).setCell ⟨w.heap.size + 1, 4, none⟩ (.int .i64 r.dnet)).setCell ⟨w.heap.size + 1, 5, none⟩ (.int .i64 r.dbits)).setCell ⟨w.heap.size + 1, 6, none⟩ (.int .i64 r.proto)).setCell ⟨w.heap.size + 1, 7, none⟩ (.int .i64 r.low)).setCell ⟨w.heap.size + 1, 8, none⟩ (.int .i64 r.high)).setCell ⟨w.heap.size + 1, 9, none⟩ (.int .i64 r.cls)) w.heap.size #[.int .i64 0, .int .i64 0, .int .i64 0, .int .i64 0, .int .i64 0, .int .i64 0, .int .i64 0, .int .i64 0, .int .i64 0, .int .i64 0] 32) :=
          ⟨r, Hs.out.symm, below_sets r Q.out.1 (Nat.le_succ _), boxed_sets m r Q.out.2.1, far_sets r Q.out.2.2 (by omega)⟩
        go_wp2
        go_roundw
        case rel => exact ⟨k + 1, by omega, by omega, by go_num, B⟩
        case measure => simp [intOf]; omega
    · obtain rfl : k = len := by omega
      have d0 : wr.cell? ⟨w.heap.size + 1, 0, none⟩ = some (.int .i64 m.id) := HX.out.2.1.cell 0 rfl
      have d1 : wr.cell? ⟨w.heap.size + 1, 1, none⟩ = some (.int .i64 m.prio) := HX.out.2.1.cell 1 rfl
      have d2 : wr.cell? ⟨w.heap.size + 1, 2, none⟩ = some (.int .i64 m.snet) := HX.out.2.1.cell 2 rfl
      have d3 : wr.cell? ⟨w.heap.size + 1, 3, none⟩ = some (.int .i64 m.sbits) := HX.out.2.1.cell 3 rfl
      have d4 : wr.cell? ⟨w.heap.size + 1, 4, none⟩ = some (.int .i64 m.dnet) := HX.out.2.1.cell 4 rfl
      have d5 : wr.cell? ⟨w.heap.size + 1, 5, none⟩ = some (.int .i64 m.dbits) := HX.out.2.1.cell 5 rfl
      have d6 : wr.cell? ⟨w.heap.size + 1, 6, none⟩ = some (.int .i64 m.proto) := HX.out.2.1.cell 6 rfl
      have d7 : wr.cell? ⟨w.heap.size + 1, 7, none⟩ = some (.int .i64 m.low) := HX.out.2.1.cell 7 rfl
      have d8 : wr.cell? ⟨w.heap.size + 1, 8, none⟩ = some (.int .i64 m.high) := HX.out.2.1.cell 8 rfl
      have d9 : wr.cell? ⟨w.heap.size + 1, 9, none⟩ = some (.int .i64 m.cls) := HX.out.2.1.cell 9 rfl
      have e0 : wr.cell? ⟨w.heap.size, 0, none⟩ = some (.int .i64 0) := HX.out.2.2.cell 0 rfl
      have e1 : wr.cell? ⟨w.heap.size, 1, none⟩ = some (.int .i64 0) := HX.out.2.2.cell 1 rfl
      have e2 : wr.cell? ⟨w.heap.size, 2, none⟩ = some (.int .i64 0) := HX.out.2.2.cell 2 rfl
      have e3 : wr.cell? ⟨w.heap.size, 3, none⟩ = some (.int .i64 0) := HX.out.2.2.cell 3 rfl
      have e4 : wr.cell? ⟨w.heap.size, 4, none⟩ = some (.int .i64 0) := HX.out.2.2.cell 4 rfl
      have e5 : wr.cell? ⟨w.heap.size, 5, none⟩ = some (.int .i64 0) := HX.out.2.2.cell 5 rfl
      have e6 : wr.cell? ⟨w.heap.size, 6, none⟩ = some (.int .i64 0) := HX.out.2.2.cell 6 rfl
      have e7 : wr.cell? ⟨w.heap.size, 7, none⟩ = some (.int .i64 0) := HX.out.2.2.cell 7 rfl
      have e8 : wr.cell? ⟨w.heap.size, 8, none⟩ = some (.int .i64 0) := HX.out.2.2.cell 8 rfl
      have e9 : wr.cell? ⟨w.heap.size, 9, none⟩ = some (.int .i64 0) := HX.out.2.2.cell 9 rfl
      have i0 : wr.frozen? ⟨w.heap.size, 0, none⟩ = false := HX.out.2.2.ice 0
      have i1 : wr.frozen? ⟨w.heap.size, 1, none⟩ = false := HX.out.2.2.ice 1
      have i2 : wr.frozen? ⟨w.heap.size, 2, none⟩ = false := HX.out.2.2.ice 2
      have i3 : wr.frozen? ⟨w.heap.size, 3, none⟩ = false := HX.out.2.2.ice 3
      have i4 : wr.frozen? ⟨w.heap.size, 4, none⟩ = false := HX.out.2.2.ice 4
      have i5 : wr.frozen? ⟨w.heap.size, 5, none⟩ = false := HX.out.2.2.ice 5
      have i6 : wr.frozen? ⟨w.heap.size, 6, none⟩ = false := HX.out.2.2.ice 6
      have i7 : wr.frozen? ⟨w.heap.size, 7, none⟩ = false := HX.out.2.2.ice 7
      have i8 : wr.frozen? ⟨w.heap.size, 8, none⟩ = false := HX.out.2.2.ice 8
      have i9 : wr.frozen? ⟨w.heap.size, 9, none⟩ = false := HX.out.2.2.ice 9
      have B : Hid (Below w.heap.size w ((((((((((wr.setCell ⟨w.heap.size, 0, none⟩ (.int .i64 m.id)).setCell ⟨w.heap.size, 1, none⟩ (.int .i64 m.prio)).setCell ⟨w.heap.size, 2, none⟩ (.int .i64 m.snet)).setCell ⟨w.heap.size, 3, none⟩ (.int .i64 m.sbits)).setCell ⟨w.heap.size, 4, none⟩ (.int .i64 m.dnet)).setCell ⟨w.heap.size, 5, none⟩ (.int .i64 m.dbits)).setCell ⟨w.heap.size, 6, none⟩ (.int .i64 m.proto)).setCell ⟨w.heap.size, 7, none⟩ (.int .i64 m.low)).setCell ⟨w.heap.size, 8, none⟩ (.int .i64 m.high)).setCell ⟨w.heap.size, 9, none⟩ (.int .i64 m.cls))) := below_sets m HX.out.1 (Nat.le_refl _)
      have BX : Hid (Boxed ((((((((((wr.setCell ⟨w.heap.size, 0, none⟩ (.int .i64 m.id)).setCell ⟨w.heap.size, 1, none⟩ (.int .i64 m.prio)).setCell ⟨w.heap.size, 2, none⟩ (.int .i64 m.snet)).setCell ⟨w.heap.size, 3, none⟩ (.int .i64 m.sbits)).setCell ⟨w.heap.size, 4, none⟩ (.int .i64 m.dnet)).setCell ⟨w.heap.size, 5, none⟩ (.int .i64 m.dbits)).setCell ⟨w.heap.size, 6, none⟩ (.int .i64 m.proto)).setCell ⟨w.heap.size, 7, none⟩ (.int .i64 m.low)).setCell ⟨w.heap.size, 8, none⟩ (.int .i64 m.high)).setCell ⟨w.heap.size, 9, none⟩ (.int .i64 m.cls)) w.heap.size #[.int .i64 m.id, .int .i64 m.prio, .int .i64 m.snet, .int .i64 m.sbits, .int .i64 m.dnet, .int .i64 m.dbits, .int .i64 m.proto, .int .i64 m.low, .int .i64 m.high, .int .i64 m.cls] 32) := boxed_sets ⟨0, 0, 0, 0, 0, 0, 0, 0, 0, 0⟩ m HX.out.2.2
      have Hv : Hid ((frontK l k).val = .agg #[.int .i64 m.id, .int .i64 m.prio, .int .i64 m.snet, .int .i64 m.sbits, .int .i64 m.dnet, .int .i64 m.dbits, .int .i64 m.proto, .int .i64 m.low, .int .i64 m.high, .int .i64 m.cls]) := by show (frontK l k).val = .agg #[.int .i64 m.id, .int .i64 m.prio, .int .i64 m.snet, .int .i64 m.sbits, .int .i64 m.dnet, .int .i64 m.dbits, .int .i64 m.proto, .int .i64 m.low, .int .i64 m.high, .int .i64 m.cls]; rw [← Hm.out]; rfl
      go_wp2
      refine bodyPost_ret (results_cell_row Try.results64 _ _ w.heap.size _ _ _ _ rfl BX.out Try.underlying32 rfl (by kernel_rfl)) rfl ⟨by rw [Hv.out], B.out⟩
end Go.Proofs.Ytdifegaokdoleaa
