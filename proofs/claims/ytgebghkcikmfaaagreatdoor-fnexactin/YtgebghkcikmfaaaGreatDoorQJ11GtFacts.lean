import Derived.Test.YtgebghkcikmfaaaGreatDoorQJ2RuMatch
import Derived.Test.YtgebghkcikmfaaaGreatDoorQJ3SrPlain
import Derived.Test.YtgebghkcikmfaaaGreatDoorQJ0NumUp
import Derived.BigQuiet
import Derived.Test.YtgebghkcikmfaaaGreatDoorQJ1FrInner
import Derived.Laws.BytesString
import Derived.Laws.Concat
import Derived.Test.YtgebghkcikmfaaaGreatDoorRows
import Derived.WalkKit
import Derived.WalkSpells
import Derived.WalkLawsBesides
import Derived.RowKit3
import Derived.Below
import Derived.Laws.Rows
import Derived.Laws.Tables
/-
  Right rules, in plain words. By the verifier.
-/
namespace Go.Proofs.YtgebghkcikmfaaaGreatDoor
open Go.RowKit

/-- Right, and behind the one ahead. -/
def goodR (l : List Ru) (i : Nat) : Bool := (ruAt l i).ok && (decide (i = 0) || decide ((ruAt l (i - 1)).id < (ruAt l i).id))
/-- The first k are. -/
def goodRs (l : List Ru) (k : Nat) : Bool := (List.range k).all (goodR l)
theorem goodRs_succ (l : List Ru) (k : Nat) : goodRs l (k + 1) = (goodRs l k && goodR l k) := by simp [goodRs, List.range_succ]
theorem goodRs_hit {l : List Ru} {k n : Nat} (h : k < n) (g : goodR l k = false) : goodRs l n = false := by
  unfold goodRs
  rw [List.all_eq_false]
  exact ⟨k, List.mem_range.2 h, by simp [g]⟩
/-- Right rules. -/
def rusOk (l : List Ru) : Bool := decide (l.length ≤ 40) && goodRs l l.length
end Go.Proofs.YtgebghkcikmfaaaGreatDoor

/-
  Trees as plain data: which are right, the path of a node, filled, paid, when there is so much. By the verifier.
-/
namespace Go.Proofs.YtgebghkcikmfaaaGreatDoor
open Go.RowKit

/-- Is it right at its place? -/
def Nd.fits (x : Nd) (k : Nat) (t0 : Int) : Bool := x.pz.ok && (decide (x.pz.tm = t0) && (if k = 0 then decide (x.up = -1) else (decide (0 ≤ x.up) && decide (x.up < (k : Int)))))
def treeB (l : List Nd) (k : Nat) : Bool := (ndAt l k).fits k (ndAt l 0).pz.tm
/-- A right tree. -/
def tok (l : List Nd) : Bool := decide (1 ≤ l.length) && (decide (l.length ≤ 12) && (List.range l.length).all (treeB l))
theorem tok_iff {l : List Nd} : tok l = true ↔ 1 ≤ l.length ∧ l.length ≤ 12 ∧ ∀ k, k < l.length → treeB l k = true := by
  unfold tok
  simp only [Bool.and_eq_true, decide_eq_true_eq, List.all_eq_true, List.mem_range]
theorem treeB_iff {l : List Nd} {k : Nat} : treeB l k = true ↔ (ndAt l k).pz.ok = true ∧ (ndAt l k).pz.tm = (ndAt l 0).pz.tm ∧ (k = 0 → (ndAt l k).up = -1) ∧ (k ≠ 0 → 0 ≤ (ndAt l k).up ∧ (ndAt l k).up < k) := by
  unfold treeB Nd.fits
  by_cases h : k = 0
  · simp only [Bool.and_eq_true, decide_eq_true_eq, if_pos h]
    constructor
    · rintro ⟨a, b, c⟩; exact ⟨a, b, fun _ => c, fun g => absurd h g⟩
    · rintro ⟨a, b, c, _⟩; exact ⟨a, b, c h⟩
  · simp only [Bool.and_eq_true, decide_eq_true_eq, if_neg h]
    constructor
    · rintro ⟨a, b, c⟩; exact ⟨a, b, fun g => absurd g h, fun _ => c⟩
    · rintro ⟨a, b, _, c⟩; exact ⟨a, b, c h⟩
theorem tok_at {l : List Nd} (h : tok l = true) {k : Nat} (hk : k < l.length) : (ndAt l k).pz.ok = true ∧ (ndAt l k).pz.tm = (ndAt l 0).pz.tm ∧ -1 ≤ (ndAt l k).up ∧ (ndAt l k).up < k ∧ (k ≠ 0 → 0 ≤ (ndAt l k).up) := by
  obtain ⟨a, b, c, d⟩ := treeB_iff.1 ((tok_iff.1 h).2.2 k hk)
  refine ⟨a, b, ?_⟩
  by_cases g : k = 0
  · have := c g; omega
  · have := d g; omega
end Go.Proofs.YtgebghkcikmfaaaGreatDoor

/-
  Which gates are right, in plain words. By the verifier.
-/
namespace Go.Proofs.YtgebghkcikmfaaaGreatDoor
open Go.RowKit

/-- All but its leaves. -/
def Gt.head (g : Gt) : Bool := g.ln.ok && (rtsOk g.routes && (rusOk g.rules && (tok g.tree && (decide (1 ≤ g.leaves.length) && (decide (g.leaves.length ≤ 8) && (g.rows.ok && (decide (g.rows.lists.length = g.leaves.length) && (decide (g.steers.length = g.leaves.length) && (g.fair.ok && (decide (g.fair.flows.length = g.leaves.length) && (inB 1 1000000 g.next && inB 0 1048575 g.draw)))))))))))
/-- An Item of a leaf. -/
def Gt.itemB (g : Gt) (i k : Nat) : Bool := decide ((itAt (izAt g.rows.lists i) k).id < g.next) && decide (g.ln.takes (itAt (izAt g.rows.lists i) k).size = (fwAt g.fair.flows i).sizes[k]?.getD 0)
/-- A leaf. -/
def Gt.leafB (g : Gt) (i : Nat) : Bool := decide (0 ≤ g.leaves[i]?.getD 0) && (decide (g.leaves[i]?.getD 0 < (g.tree.length : Int)) && ((decide (i = 0) || decide (g.leaves[i - 1]?.getD 0 < g.leaves[i]?.getD 0)) && ((srAt g.steers i).ok && (decide ((fwAt g.fair.flows i).sizes.length = (izAt g.rows.lists i).length) && (List.range (izAt g.rows.lists i).length).all (g.itemB i)))))
def Gt.ok (g : Gt) : Bool := g.head && (List.range g.leaves.length).all g.leafB
theorem Gt.ok_iff {g : Gt} : g.ok = true ↔ g.head = true ∧ ∀ i, i < g.leaves.length → g.leafB i = true := by
  unfold Gt.ok
  simp only [Bool.and_eq_true, List.all_eq_true, List.mem_range]
end Go.Proofs.YtgebghkcikmfaaaGreatDoor

/-
  The walk of the model's RulesOk. By the verifier.
-/
namespace Go.Proofs.YtgebghkcikmfaaaGreatDoor
open Go.RowKit

set_option maxHeartbeats 6400000 in
set_option maxRecDepth 100000 in
theorem specRules (a0 : Option Addr) (cap : Nat) (l : List Ru) (w : World) (hT : l.length ≤ 1048576) (h : Hid (RusAt w a0 l)) :
    Calls Tryz.prog 68 #[.slice a0 l.length cap] w fun e w' => e = .returned (.bool (rusOk l)) ∧ Below w.heap.size w w' := by
  have Hok : Hid (rusOk l = (decide (l.length ≤ 40) && goodRs l l.length)) := rfl
  obtain ⟨len, hlen⟩ : ∃ n, l.length = n := ⟨_, rfl⟩
  rw [hlen] at hT ⊢
  have Hlen : Hid (l.length = len) := hlen
  clear hlen
  by_cases h40 : 40 < len
  · have e : rusOk l = false := by rw [Hok.out, Hlen.out]; simp; omega
    rw [e]
    clear e Hok
    go_enter Tryz.func68, Tryz.ntmps68
    go_wp2
    go_ret
    exact ⟨rfl, Below.refl _ _⟩
  have e : Hid (rusOk l = goodRs l len) := by
    show rusOk l = goodRs l len
    rw [Hok.out, Hlen.out]
    simp; omega
  clear Hok
  go_enter Tryz.func68, Tryz.ntmps68
  go_wp2
  go_loopw [3] (fun i wr => ∃ k : Nat, k ≤ len ∧ i = .int .i64 k ∧ Hid (goodRs l k = true) ∧ Hid (Below w.heap.size w wr)) (fun i _ => len - (intOf i).toNat)
  case atStart => exact ⟨0, Nat.zero_le _, rfl, rfl, Below.refl _ _⟩
  case round =>
    obtain ⟨k, hk, rfl, hg, hb⟩ := hrel
    by_cases hlt : k < len
    · have R : Hid (RusAt wr a0 l) := h.out.below hb.out
      obtain ⟨b1, o1, ha1, hb1, -⟩ := R.out k (by rw [Hlen.out]; exact hlt)
      subst ha1
      have Hn : Hid _ := goodRs_succ l k
      have Hh : Hid _ := fun g => goodRs_hit (l := l) (k := k) (n := len) hlt g
      have Hgd : Hid (goodR l k = ((ruAt l k).ok && (decide (k = 0) || decide ((ruAt l (k - 1)).id < (ruAt l k).id)))) := rfl
      have hlt' : (k : Int) < (len : Int) := by omega
      have C := fun w => (specRule (ruAt l k) w).mono fun e w' (q : e = .returned (.bool (ruAt l k).ok) ∧ w' = _) => (⟨q.1, by rw [q.2]; exact (Below.refl _ _).alloc (Nat.le_refl _) _⟩ : e = .returned (.bool (ruAt l k).ok) ∧ Below w.heap.size w w')
      haveI : Nonempty (BelW wr.heap.size wr) := ⟨⟨wr, Below.refl _ _⟩⟩
      have f0 := fun p : BelW wr.heap.size wr => ((R.out.below p.h).cells (k := k) (by rw [Hlen.out]; omega)).1
      have f1 := fun p : BelW wr.heap.size wr => ((R.out.below p.h).cells (k := k) (by rw [Hlen.out]; omega)).2.1
      have f2 := fun p : BelW wr.heap.size wr => ((R.out.below p.h).cells (k := k) (by rw [Hlen.out]; omega)).2.2.1
      have f3 := fun p : BelW wr.heap.size wr => ((R.out.below p.h).cells (k := k) (by rw [Hlen.out]; omega)).2.2.2.1
      have f4 := fun p : BelW wr.heap.size wr => ((R.out.below p.h).cells (k := k) (by rw [Hlen.out]; omega)).2.2.2.2.1
      have f5 := fun p : BelW wr.heap.size wr => ((R.out.below p.h).cells (k := k) (by rw [Hlen.out]; omega)).2.2.2.2.2.1
      have f6 := fun p : BelW wr.heap.size wr => ((R.out.below p.h).cells (k := k) (by rw [Hlen.out]; omega)).2.2.2.2.2.2.1
      have f7 := fun p : BelW wr.heap.size wr => ((R.out.below p.h).cells (k := k) (by rw [Hlen.out]; omega)).2.2.2.2.2.2.2.1
      have f8 := fun p : BelW wr.heap.size wr => ((R.out.below p.h).cells (k := k) (by rw [Hlen.out]; omega)).2.2.2.2.2.2.2.2.1
      have f9 := fun p : BelW wr.heap.size wr => ((R.out.below p.h).cells (k := k) (by rw [Hlen.out]; omega)).2.2.2.2.2.2.2.2.2
      by_cases hk0 : k = 0
      · cases hok : (ruAt l k).ok
        · rw [hok] at C
          have hbad : Hid (goodRs l len = false) := Hh.out (by rw [Hgd.out, hok]; rfl)
          clear hok Hn Hh Hgd
          unfold Ru.val at C
          generalize ruAt l k = r at C f0 f1 f2 f3 f4 f5 f6 f7 f8 f9
          have C' : Hid _ := C
          clear C
          subst hk0
          simp only [Nat.zero_mul, Nat.add_zero] at f0 f1 f2 f3 f4 f5 f6 f7 f8 f9
          go_wp2
          refine region_below wr.heap.size (by kernel_rfl) (by kernel_rfl) ?_
          repeat (go_big_quiet_step ((go_at_call 141; refine quiet_below (Nat.le_refl _) (C'.out _))))
          refine wpQuiet_nil ?_
          intro wq hx
          have hq := BelW.out hx
          have B : Hid (Below w.heap.size w wq) := hb.out.trans (hq.mono hb.out.size)
          clear hx hq f0 f1 f2 f3 f4 f5 f6 f7 f8 f9
          go_wp2
          go_ret
          exact ⟨ret_bool (by rw [e.out, hbad.out]), B.out⟩
        · rw [hok] at C
          have hgood : Hid (goodRs l (k + 1) = true) := by
            show goodRs l (k + 1) = true
            rw [Hn.out, hg.out, Hgd.out, hok]; simp [hk0]
          clear hok Hn Hh Hgd
          unfold Ru.val at C
          generalize ruAt l k = r at C f0 f1 f2 f3 f4 f5 f6 f7 f8 f9
          have C' : Hid _ := C
          clear C
          subst hk0
          simp only [Nat.zero_mul, Nat.add_zero] at f0 f1 f2 f3 f4 f5 f6 f7 f8 f9
          go_wp2
          refine region_below wr.heap.size (by kernel_rfl) (by kernel_rfl) ?_
          repeat (go_big_quiet_step ((go_at_call 141; refine quiet_below (Nat.le_refl _) (C'.out _))))
          refine wpQuiet_nil ?_
          intro wq hx
          have hq := BelW.out hx
          have B : Hid (Below w.heap.size w wq) := hb.out.trans (hq.mono hb.out.size)
          clear hx hq f0 f1 f2 f3 f4 f5 f6 f7 f8 f9
          go_wp2
          go_roundw
          case rel => exact ⟨0 + 1, by omega, by go_num, hgood, B⟩
          case measure => simp [intOf]; omega
      · obtain ⟨j, rfl⟩ : ∃ j, k = j + 1 := ⟨k - 1, by omega⟩
        have g0 := fun p : BelW wr.heap.size wr => ((R.out.below p.h).cells (k := j) (by rw [Hlen.out]; omega)).1
        have hj0 : (0 : Int) < (j : Int) + 1 := by omega
        have hjl : (j : Int) < (len : Int) := by omega
        simp only [Nat.add_sub_cancel] at Hgd
        cases hok : (ruAt l (j + 1)).ok
        · rw [hok] at C
          have hbad : Hid (goodRs l len = false) := Hh.out (by rw [Hgd.out, hok]; rfl)
          clear hok Hn Hh Hgd
          unfold Ru.val at C
          generalize ruAt l (j + 1) = r at C f0 f1 f2 f3 f4 f5 f6 f7 f8 f9
          generalize ruAt l j = r2 at g0
          have C' : Hid _ := C
          clear C
          go_wp2
          refine region_below wr.heap.size (by kernel_rfl) (by kernel_rfl) ?_
          repeat (go_big_quiet_step ((go_at_call 141; refine quiet_below (Nat.le_refl _) (C'.out _))))
          refine wpQuiet_nil ?_
          intro wq hx
          have hq := BelW.out hx
          have B : Hid (Below w.heap.size w wq) := hb.out.trans (hq.mono hb.out.size)
          clear hx hq f0 f1 f2 f3 f4 f5 f6 f7 f8 f9 g0
          go_wp2
          go_ret
          exact ⟨ret_bool (by rw [e.out, hbad.out]), B.out⟩
        · rw [hok] at C
          unfold Ru.val at C
          by_cases hL : (ruAt l j).id < (ruAt l (j + 1)).id
          · have hgood : Hid (goodRs l (j + 1 + 1) = true) := by
              show goodRs l (j + 1 + 1) = true
              rw [Hn.out, hg.out, Hgd.out, hok, decide_eq_true hL]; simp
            clear hok Hn Hh Hgd
            generalize ruAt l (j + 1) = r at C hL f0 f1 f2 f3 f4 f5 f6 f7 f8 f9
            generalize ruAt l j = r2 at g0 hL
            have hL2 : ¬ r.id ≤ r2.id := by omega
            have C' : Hid _ := C
            clear C
            go_wp2
            refine region_below wr.heap.size (by kernel_rfl) (by kernel_rfl) ?_
            repeat (go_big_quiet_step ((go_at_call 141; refine quiet_below (Nat.le_refl _) (C'.out _))))
            refine wpQuiet_nil ?_
            intro wq hx
            have hq := BelW.out hx
            have B : Hid (Below w.heap.size w wq) := hb.out.trans (hq.mono hb.out.size)
            clear hx hq f0 f1 f2 f3 f4 f5 f6 f7 f8 f9 g0
            go_wp2
            go_roundw
            case rel => exact ⟨j + 1 + 1, by omega, by go_num, hgood, B⟩
            case measure => simp [intOf]; omega
          · have hbad : Hid (goodRs l len = false) := Hh.out (by rw [Hgd.out, hok, decide_eq_false hL]; simp)
            clear hok Hn Hh Hgd
            generalize ruAt l (j + 1) = r at C hL f0 f1 f2 f3 f4 f5 f6 f7 f8 f9
            generalize ruAt l j = r2 at g0 hL
            have hL2 : r.id ≤ r2.id := by omega
            have C' : Hid _ := C
            clear C
            go_wp2
            refine region_below wr.heap.size (by kernel_rfl) (by kernel_rfl) ?_
            repeat (go_big_quiet_step ((go_at_call 141; refine quiet_below (Nat.le_refl _) (C'.out _))))
            refine wpQuiet_nil ?_
            intro wq hx
            have hq := BelW.out hx
            have B : Hid (Below w.heap.size w wq) := hb.out.trans (hq.mono hb.out.size)
            clear hx hq f0 f1 f2 f3 f4 f5 f6 f7 f8 f9 g0
            go_wp2
            go_ret
            exact ⟨ret_bool (by rw [e.out, hbad.out]), B.out⟩
    · obtain rfl : k = len := by omega
      go_wp2
      go_ret
      exact ⟨ret_bool (by rw [e.out, hg.out]), hb.out⟩
end Go.Proofs.YtgebghkcikmfaaaGreatDoor

/-
  Gates in plain words: made, later, ruled. By the verifier.
-/
namespace Go.Proofs.YtgebghkcikmfaaaGreatDoor
open Go.RowKit

/-- No gate. -/
def Gt.zero : Gt := ⟨⟨0, 0, 0⟩, [], [], [], [], ⟨0, []⟩, [], ⟨0, []⟩, 0, 0⟩
theorem Gt.head_iff {g : Gt} : g.head = true ↔ g.ln.ok = true ∧ rtsOk g.routes = true ∧ rusOk g.rules = true ∧ tok g.tree = true ∧ (1 ≤ g.leaves.length ∧ g.leaves.length ≤ 8) ∧ g.rows.ok = true ∧ g.rows.lists.length = g.leaves.length ∧ g.steers.length = g.leaves.length ∧ g.fair.ok = true ∧ g.fair.flows.length = g.leaves.length ∧ (1 ≤ g.next ∧ g.next ≤ 1000000) ∧ 0 ≤ g.draw ∧ g.draw ≤ 1048575 := by
  unfold Gt.head
  simp only [Bool.and_eq_true, decide_eq_true_eq, inB_true]
  constructor
  · rintro ⟨a, b, c, d, e, f, g, h, i, j, k, l, m⟩
    exact ⟨a, b, c, d, ⟨e, f⟩, g, h, i, j, k, l, m.1, m.2⟩
  · rintro ⟨a, b, c, d, ⟨e, f⟩, g, h, i, j, k, l, m⟩
    exact ⟨a, b, c, d, e, f, g, h, i, j, k, l, m⟩
/-- What a leaf of a right gate is. -/
theorem Gt.leaf_iff {g : Gt} {i : Nat} : g.leafB i = true ↔ (0 ≤ g.leaves[i]?.getD 0 ∧ g.leaves[i]?.getD 0 < (g.tree.length : Int)) ∧ (i = 0 ∨ g.leaves[i - 1]?.getD 0 < g.leaves[i]?.getD 0) ∧ (srAt g.steers i).ok = true ∧ (fwAt g.fair.flows i).sizes.length = (izAt g.rows.lists i).length ∧ ∀ k, k < (izAt g.rows.lists i).length → (itAt (izAt g.rows.lists i) k).id < g.next ∧ g.ln.takes (itAt (izAt g.rows.lists i) k).size = (fwAt g.fair.flows i).sizes[k]?.getD 0 := by
  unfold Gt.leafB Gt.itemB
  simp only [Bool.and_eq_true, Bool.or_eq_true, decide_eq_true_eq, List.all_eq_true, List.mem_range]
  constructor
  · rintro ⟨a, b, c, d, e, f⟩
    exact ⟨⟨a, b⟩, c, d, e, f⟩
  · rintro ⟨⟨a, b⟩, c, d, e, f⟩
    exact ⟨a, b, c, d, e, f⟩
theorem Gt.zero_big : Gt.zero.big = 0 := rfl
end Go.Proofs.YtgebghkcikmfaaaGreatDoor

/-
  Plain facts of rows: what is pushed and popped stays right, is one more or one less, weighs as much more or less, and comes out in order. By the verifier.
-/
namespace Go.Proofs.YtgebghkcikmfaaaGreatDoor
open Go.RowKit

/-- One list put in the place of another. -/
def Rw.putL (r : Rw) (j : Nat) (l : List It) : Rw := ⟨r.most, r.lists.set j l⟩
theorem parts {r : Rw} {j : Nat} (hj : j < r.lists.length) : ∃ A B, r.all = A ++ (izAt r.lists j ++ B) ∧ ∀ l, (r.putL j l).all = A ++ (l ++ B) := by
  refine ⟨(r.lists.take j).flatten, (r.lists.drop (j + 1)).flatten, ?_, fun l => ?_⟩
  · have e : r.lists = r.lists.take j ++ izAt r.lists j :: r.lists.drop (j + 1) := by
      rw [izAt_lt hj, ← List.drop_eq_getElem_cons hj, List.take_append_drop]
    unfold Rw.all
    conv => lhs; rw [e]
    simp only [List.flatten_append, List.flatten_cons]
  · have e2 : r.lists.set j l = r.lists.take j ++ l :: r.lists.drop (j + 1) := List.set_eq_take_append_cons_drop.trans (if_pos hj)
    unfold Rw.all Rw.putL
    rw [e2]
    simp only [List.flatten_append, List.flatten_cons]
theorem putL_len (r : Rw) (j : Nat) (l : List It) : (r.putL j l).lists.length = r.lists.length := by unfold Rw.putL; simp
theorem ok_small {r : Rw} (h : r.ok = true) : r.big ≤ 216 := by
  have g := Rw.ok_iff.1 h
  have h1 := g.2.2.2.2
  have h2 := g.1.2
  have h3 := g.2.1.2
  unfold Rw.big
  rw [← all_length]
  omega
theorem ok_more {r : Rw} (h : r.ok = true) {j : Nat} (hj : j < r.lists.length) {i : It} (h1 : i.ok = true) (h2 : r.has i.id = false) (h3 : ¬ (izSum r.lists r.lists.length : Int) = r.most) : (r.putL j (izAt r.lists j ++ [i])).ok = true := by
  obtain ⟨A, B, e1, e2⟩ := parts hj
  have g := Rw.ok_iff.1 h
  rw [Rw.ok_iff]
  have hm : (r.putL j (izAt r.lists j ++ [i])).most = r.most := rfl
  refine ⟨g.1, by rw [putL_len]; exact g.2.1, ?_⟩
  rw [hm, e2]
  have gg := g.2.2
  rw [e1] at gg
  have hperm : (A ++ (izAt r.lists j ++ [i] ++ B)).Perm (i :: (A ++ (izAt r.lists j ++ B))) := by
    rw [List.append_assoc, ← List.append_assoc, List.singleton_append]
    rw [← List.append_assoc A]
    exact List.perm_middle
  refine ⟨?_, ?_, ?_⟩
  · intro x hx
    rcases List.mem_cons.1 (hperm.mem_iff.1 hx) with rfl | hx
    · exact h1
    · exact gg.1 x hx
  · rw [(hperm.map It.id).nodup_iff, List.map_cons, List.nodup_cons]
    refine ⟨?_, gg.2.1⟩
    unfold Rw.has at h2
    rw [decide_eq_false_iff_not, e1] at h2
    exact h2
  · have hl := hperm.length_eq
    have h4 := all_length r
    have h5 := gg.2.2
    rw [e1] at h4
    rw [hl, List.length_cons]
    have : (izSum r.lists r.lists.length : Int) = ((A ++ (izAt r.lists j ++ B)).length : Int) := by rw [h4]
    push_cast
    omega
end Go.Proofs.YtgebghkcikmfaaaGreatDoor

/-
  A right gate stays right: later, ruled, when something comes in, and when the first of a leaf goes. By the verifier.
-/
namespace Go.Proofs.YtgebghkcikmfaaaGreatDoor
open Go.RowKit

/-- The draw goes on. -/
def Gt.drawn (g : Gt) : Gt := { g with draw := (g.draw * 25173 + 13849) % 1048576 }
theorem Gt.drawn_ok {g : Gt} (h : g.ok = true) : g.drawn.ok = true := by
  obtain ⟨hh, hl⟩ := Gt.ok_iff.1 h
  have hd := Gt.head_iff.1 hh
  refine Gt.ok_iff.2 ⟨Gt.head_iff.2 ⟨hd.1, hd.2.1, hd.2.2.1, hd.2.2.2.1, hd.2.2.2.2.1, hd.2.2.2.2.2.1, hd.2.2.2.2.2.2.1, hd.2.2.2.2.2.2.2.1, hd.2.2.2.2.2.2.2.2.1, hd.2.2.2.2.2.2.2.2.2.1, hd.2.2.2.2.2.2.2.2.2.2.1, ?_, ?_⟩, fun i hi => Gt.leaf_iff.2 (Gt.leaf_iff.1 (hl i hi))⟩
  · show 0 ≤ (g.draw * 25173 + 13849) % 1048576
    omega
  · show (g.draw * 25173 + 13849) % 1048576 ≤ 1048575
    omega
/-- Is there no room for one more in a leaf? -/
def Gt.full (g : Gt) (i : Nat) : Bool := decide (g.next = 1000000) || (decide ((izSum g.rows.lists g.rows.lists.length : Int) = g.rows.most) || decide ((fwAt g.fair.flows i).sizes.length = 40))
/-- One more in a leaf. -/
def Gt.put (g : Gt) (i : Nat) (len : Int) : Gt := { g with rows := g.rows.putL i (izAt g.rows.lists i ++ [⟨g.next, len, (ndAt g.tree 0).pz.tm⟩]), fair := ⟨g.fair.now, g.fair.flows.set i ((fwAt g.fair.flows i).more g.fair.now (g.ln.takes len))⟩, next := g.next + 1 }
theorem izAt_set {l : List (List It)} {i j : Nat} {x : List It} (hi : i < l.length) : izAt (l.set i x) j = if i = j then x else izAt l j := by
  unfold izAt
  rw [List.getElem?_set]
  by_cases h : i = j
  · subst h; simp [hi]
  · simp [h]
theorem fwAt_set' {l : List Fw} {i j : Nat} {x : Fw} (hi : i < l.length) : fwAt (l.set i x) j = if i = j then x else fwAt l j := by
  unfold fwAt
  rw [List.getElem?_set]
  by_cases h : i = j
  · subst h; simp [hi]
  · simp [h]
/-- All Ids of a right gate are below Next. -/
theorem Gt.ids {g : Gt} (h : g.ok = true) : ∀ x ∈ g.rows.all, x.id < g.next := by
  obtain ⟨hh, hl⟩ := Gt.ok_iff.1 h
  have hd := Gt.head_iff.1 hh
  intro x hx
  unfold Rw.all at hx
  obtain ⟨l, hl1, hl2⟩ := List.mem_flatten.1 hx
  obtain ⟨i, hi, rfl⟩ := List.getElem_of_mem hl1
  obtain ⟨k, hk, rfl⟩ := List.getElem_of_mem hl2
  have q := Gt.leaf_iff.1 (hl i (by rw [← hd.2.2.2.2.2.2.1]; exact hi))
  have e : izAt g.rows.lists i = g.rows.lists[i] := izAt_lt hi
  rw [e] at q
  have := (q.2.2.2.2 k hk).1
  rw [itAt_lt hk] at this
  exact this
theorem Gt.put_ok {g : Gt} {i : Nat} {len : Int} (h : g.ok = true) (hi : i < g.leaves.length) (hf : g.full i = false) (h1 : 1 ≤ len ∧ len ≤ 100000) (h2 : 1 ≤ g.ln.takes len ∧ g.ln.takes len ≤ 2000) : (g.put i len).ok = true := by
  obtain ⟨hh, hl⟩ := Gt.ok_iff.1 h
  obtain ⟨a1, a2, a3, a4, a5, a6, a7, a8, a9, a10, a11, a12⟩ := Gt.head_iff.1 hh
  unfold Gt.full at hf
  simp only [Bool.or_eq_false_iff, decide_eq_false_iff_not] at hf
  obtain ⟨f1, f2, f3⟩ := hf
  have hiL : i < g.rows.lists.length := by omega
  have hiF : i < g.fair.flows.length := by omega
  have htm := Pz.ok_iff.1 (tok_at a4 (k := 0) (by have := (tok_iff.1 a4).1; omega)).1
  have iok : It.ok ⟨g.next, len, (ndAt g.tree 0).pz.tm⟩ = true := by
    unfold It.ok
    simp only [Bool.and_eq_true, inB_true]
    omega
  have hno : g.rows.has g.next = false := by
    unfold Rw.has
    rw [decide_eq_false_iff_not]
    intro hm
    obtain ⟨x, hx, e⟩ := List.mem_map.1 hm
    have := Gt.ids h x hx
    omega
  have rok := ok_more a6 hiL (i := ⟨g.next, len, (ndAt g.tree 0).pz.tm⟩) iok hno f2
  have fiok := Fw.ok_iff.1 (Fs.ok_at a9 hiF)
  obtain ⟨s1, s2, s3⟩ := Fs.ok_iff.1 a9
  have mok : ((fwAt g.fair.flows i).more g.fair.now (g.ln.takes len)).ok = true := by
    refine Fw.ok_iff.2 ⟨fiok.1, ?_, ?_, ?_⟩
    · have e : ((fwAt g.fair.flows i).more g.fair.now (g.ln.takes len)).finish = if (fwAt g.fair.flows i).sizes.length = 0 then max (fwAt g.fair.flows i).finish g.fair.now else (fwAt g.fair.flows i).finish := rfl
      rw [e]
      have := fiok.2.1
      split <;> omega
    · unfold Fw.more
      simp only [List.length_append, List.length_singleton]
      have := fiok.2.2.1
      omega
    · intro y hy
      unfold Fw.more at hy
      rcases List.mem_append.1 hy with hy | hy
      · exact fiok.2.2.2 y hy
      · rw [List.mem_singleton.1 hy]; exact h2
  refine Gt.ok_iff.2 ⟨Gt.head_iff.2 ⟨a1, a2, a3, a4, a5, rok, ?_, a8, ?_, ?_, ?_, a12⟩, fun j hj => ?_⟩
  · show (g.rows.putL _ _).lists.length = _
    rw [putL_len]; exact a7
  · refine Fs.ok_iff.2 ⟨s1, ?_, ?_⟩
    · show 1 ≤ (g.fair.flows.set _ _).length ∧ (g.fair.flows.set _ _).length ≤ 8
      rw [List.length_set]; exact s2
    · intro x hx
      rcases List.mem_or_eq_of_mem_set hx with hx | rfl
      · exact s3 x hx
      · exact mok
  · show (g.fair.flows.set _ _).length = _
    rw [List.length_set]; exact a10
  · show 1 ≤ g.next + 1 ∧ g.next + 1 ≤ 1000000
    omega
  · have q := Gt.leaf_iff.1 (hl j hj)
    refine Gt.leaf_iff.2 ⟨q.1, q.2.1, q.2.2.1, ?_, ?_⟩
    · show (fwAt (g.fair.flows.set i _) j).sizes.length = (izAt (g.rows.lists.set i _) j).length
      rw [fwAt_set' hiF, izAt_set hiL]
      by_cases e : i = j
      · subst e
        rw [if_pos rfl, if_pos rfl]
        unfold Fw.more
        simp only [List.length_append, List.length_singleton]
        rw [q.2.2.2.1]
      · rw [if_neg e, if_neg e]; exact q.2.2.2.1
    · show ∀ k, k < (izAt (g.rows.lists.set i _) j).length → (itAt (izAt (g.rows.lists.set i _) j) k).id < g.next + 1 ∧ g.ln.takes (itAt (izAt (g.rows.lists.set i _) j) k).size = (fwAt (g.fair.flows.set i _) j).sizes[k]?.getD 0
      rw [fwAt_set' hiF, izAt_set hiL]
      by_cases e : i = j
      · subst e
        rw [if_pos rfl, if_pos rfl]
        intro k hk
        unfold Fw.more
        simp only [List.length_append, List.length_singleton] at hk
        have hsz := q.2.2.2.1
        by_cases hk2 : k < (izAt g.rows.lists i).length
        · have e1 : itAt (izAt g.rows.lists i ++ [⟨g.next, len, (ndAt g.tree 0).pz.tm⟩]) k = itAt (izAt g.rows.lists i) k := by
            unfold itAt
            rw [List.getElem?_append_left hk2]
          have e2 : ((fwAt g.fair.flows i).sizes ++ [g.ln.takes len])[k]?.getD 0 = (fwAt g.fair.flows i).sizes[k]?.getD 0 := by
            rw [List.getElem?_append_left (by omega)]
          have := q.2.2.2.2 k hk2
          rw [e1]
          refine ⟨by omega, ?_⟩
          rw [this.2]
          exact e2.symm
        · obtain rfl : k = (izAt g.rows.lists i).length := by omega
          have e1 : itAt (izAt g.rows.lists i ++ [⟨g.next, len, (ndAt g.tree 0).pz.tm⟩]) (izAt g.rows.lists i).length = ⟨g.next, len, (ndAt g.tree 0).pz.tm⟩ := by
            unfold itAt
            simp
          have e2 : ((fwAt g.fair.flows i).sizes ++ [g.ln.takes len])[(izAt g.rows.lists i).length]?.getD 0 = g.ln.takes len := by
            rw [← hsz]
            simp
          rw [e1]
          exact ⟨by show g.next < g.next + 1; omega, e2.symm⟩
      · rw [if_neg e, if_neg e]
        intro k hk
        have := q.2.2.2.2 k hk
        exact ⟨by omega, this.2⟩
end Go.Proofs.YtgebghkcikmfaaaGreatDoor

/-
  Bytes of the call's own as a text; a list of bytes behind another one. By the verifier.
-/
namespace Go.Proofs.YtgebghkcikmfaaaGreatDoor
open Go.RowKit

theorem Row.form {base : Nat} {w : World} {v : Value} {xs : List Int} (h : Row base w v xs) (hx : 0 < xs.length) : ∃ g cap, v = .slice (some ⟨g, 0, none⟩) xs.length cap := by
  rcases h.2 with ⟨rfl, hn⟩ | ⟨g, cap, cur, rfl, _⟩
  · omega
  · exact ⟨_, _, rfl⟩
theorem foldl_strB (ns : List Int) : ns.foldl (fun r n => r.push (UInt8.ofNat n.toNat)) ByteArray.empty = strB ns := by
  have : ∀ (ns : List Int) (r : ByteArray), ns.foldl (fun r n => r.push (UInt8.ofNat n.toNat)) r = ⟨r.data ++ (ns.map fun n => UInt8.ofNat n.toNat).toArray⟩ := by
    intro ns
    induction ns with
    | nil => intro r; simp
    | cons n ns ih =>
      intro r
      rw [List.foldl_cons, ih]
      apply ByteArray.ext
      show (r.data.push _) ++ _ = _
      simp
  rw [this]; simp [strB, ByteArray.empty, ByteArray.emptyWithCapacity]; rfl
theorem Row.bytes {base : Nat} {w : World} {xs : List Int} {g cap : Nat} (h : Row base w (.slice (some ⟨g, 0, none⟩) xs.length cap) xs) :
    (Conv.bytesToString (.slice (some ⟨g, 0, none⟩) xs.length cap)).run Tryz.prog w = .ok (.string (strB xs)) w := by
  have hl := run_loadCells_list (P := Tryz.prog) w ⟨g, 0, none⟩ (xs.map (Value.int .u8)) (World.ownsRow.cells h rfl)
  rw [List.length_map] at hl
  rw [run_bytesToString w ⟨g, 0, none⟩ xs.length cap xs hl, foldl_strB]
theorem Row.conv {base : Nat} {w : World} {xs : List Int} {g cap : Nat} (h : Row base w (.slice (some ⟨g, 0, none⟩) xs.length cap) xs) :
    (convert 224 9 (.slice (some ⟨g, 0, none⟩) xs.length cap)).run Tryz.prog w = .ok (.string (strB xs)) w := by
  rw [run_convert_bytes_string w 224 9 5 _ _ _ Tryz.underlying224 Tryz.underlying5 Tryz.underlying9, h.bytes]
theorem strB_append (a b : List Int) : strB (a ++ b) = strB a ++ strB b := by
  apply ByteArray.ext
  simp [strB]
theorem strB_bytesB (s : ByteArray) : strB (bytesB s) = s := by
  apply ByteArray.ext
  have e : ((fun n : Int => UInt8.ofNat n.toNat) ∘ fun b : UInt8 => (b.toNat : Int)) = id := by
    funext b; simp
  simp [strB, bytesB, e]
theorem strB_size (a : List Int) : (strB a).size = a.length := by
  show (List.toArray _).size = _
  simp
theorem Fr.show_ok {f : Fr} (h : f.ok = true) : f.show = strB f.head ++ f.body := by simp [Fr.show, h]
theorem Fr.show_no {f : Fr} (h : f.ok = false) : f.show = ByteArray.empty := by simp [Fr.show, h]
end Go.Proofs.YtgebghkcikmfaaaGreatDoor

/-
  The sum of a text as plain data; the walks of the model's l3Fold and Sum16. By the verifier.
-/
namespace Go.Proofs.YtgebghkcikmfaaaGreatDoor
open Go.RowKit

/-- Two sums in one. -/
def fold16 (a b : Int) : Int := if 65535 < a + b then a + b - 65535 else a + b
theorem fold16_in {a b : Int} (a0 : 0 ≤ a) (a1 : a ≤ 65535) (b0 : 0 ≤ b) (b1 : b ≤ 65535) : 0 ≤ fold16 a b ∧ fold16 a b ≤ 65535 := by
  unfold fold16
  split <;> omega
/-- The byte at p; 0 behind the end. -/
def byteAt (text : ByteArray) (p : Nat) : Int := if h : p < text.size then ((text[p]'h).toNat : Int) else 0
theorem byteAt_in (text : ByteArray) (p : Nat) : 0 ≤ byteAt text p ∧ byteAt text p ≤ 255 := by
  unfold byteAt
  split
  · rename_i h
    have := (text[p]'h).toNat_lt
    omega
  · omega
/-- The pairs ahead of j, folded. -/
def sumTo (text : ByteArray) : Nat → Int
  | 0 => 0
  | j + 1 => fold16 (sumTo text j) (byteAt text (2 * j) * 256 + byteAt text (2 * j + 1))
theorem sumTo_in (text : ByteArray) (j : Nat) : 0 ≤ sumTo text j ∧ sumTo text j ≤ 65535 := by
  induction j with
  | zero => exact ⟨Int.le_refl _, by show (0 : Int) ≤ 65535; decide⟩
  | succ j ih =>
    have a := byteAt_in text (2 * j)
    have b := byteAt_in text (2 * j + 1)
    exact fold16_in ih.1 ih.2 (by omega) (by omega)
/-- The sum of a text. -/
def sum16 (text : ByteArray) : Int := 65535 - sumTo text ((text.size + 1) / 2)
theorem specFold16 (a b : Int) (a0 : 0 ≤ a) (a1 : a ≤ 65535) (b0 : 0 ≤ b) (b1 : b ≤ 65535) (w : World) :
    Calls Tryz.prog 232 #[.int .i64 a, .int .i64 b] w fun e w' => e = .returned (.int .i64 (fold16 a b)) ∧ w' = w := by
  unfold fold16
  by_cases h : 65535 < a + b
  · rw [if_pos h]
    go_enter Tryz.func232, Tryz.ntmps232
    go_wp2
    go_ret
    exact ⟨rfl, rfl⟩
  · rw [if_neg h]
    go_enter Tryz.func232, Tryz.ntmps232
    go_wp2
    go_ret
    exact ⟨rfl, rfl⟩

set_option maxHeartbeats 1600000 in
theorem specSum16 (text : ByteArray) (hsz : text.size ≤ 1048576) (w : World) :
    Calls Tryz.prog 183 #[.string text] w fun e w' => e = .returned (.int .i64 (sum16 text)) ∧ w' = w := by
  go_enter Tryz.func183, Tryz.ntmps183
  go_wp2
  go_loop [3, 4] (fun n i => ∃ j : Nat, j ≤ (text.size + 1) / 2 ∧ i = .int .i64 (2 * (j : Int)) ∧ n = .int .i64 (sumTo text j)) (fun _ i => text.size + 1 - (intOf i).toNat)
  case atStart => exact ⟨0, Nat.zero_le _, by simp, rfl⟩
  case round =>
    obtain ⟨j, hj, rfl, rfl⟩ := hrel
    obtain ⟨n0, n1⟩ := sumTo_in text j
    by_cases hlt : 2 * j < text.size
    · have hin' : 2 * (j : Int) < text.size := by omega
      have hs : Hid (sumTo text (j + 1) = fold16 (sumTo text j) (byteAt text (2 * j) * 256 + byteAt text (2 * j + 1))) := rfl
      have e0 : byteAt text (2 * j) = ((text[2 * j]'hlt).toNat : Int) := by unfold byteAt; rw [dif_pos hlt]
      have hx := (text[2 * j]'hlt).toNat_lt
      by_cases hl1 : 2 * j + 1 < text.size
      · have hin1 : 2 * (j : Int) + 1 < text.size := by omega
        have e1 : byteAt text (2 * j + 1) = ((text[2 * j + 1]'hl1).toNat : Int) := by unfold byteAt; rw [dif_pos hl1]
        have hy := (text[2 * j + 1]'hl1).toNat_lt
        rw [e0, e1] at hs
        generalize sumTo text j = n at hs n0 n1 ⊢
        go_wp2_with fail
        refine (specFold16 _ _ n0 n1 (by omega) (by omega) _).mono ?_
        rintro e w' ⟨rfl, rfl⟩
        go_wp2
        go_round
        case rel => exact ⟨j + 1, by omega, by go_num, by rw [hs.out]⟩
        case measure => simp [intOf]; omega
      · have hin1 : ¬ 2 * (j : Int) + 1 < text.size := by omega
        have e1 : byteAt text (2 * j + 1) = 0 := by unfold byteAt; rw [dif_neg hl1]
        rw [e0, e1, Int.add_zero] at hs
        generalize sumTo text j = n at hs n0 n1 ⊢
        go_wp2_with fail
        refine (specFold16 _ _ n0 n1 (by omega) (by omega) _).mono ?_
        rintro e w' ⟨rfl, rfl⟩
        go_wp2
        go_round
        case rel => exact ⟨j + 1, by omega, by go_num, by rw [hs.out]⟩
        case measure => simp [intOf]; omega
    · have he : j = (text.size + 1) / 2 := by omega
      have hs : Hid (sum16 text = 65535 - sumTo text j) := by subst he; rfl
      generalize sumTo text j = n at hs n0 n1 ⊢
      go_wp2
      go_ret
      exact ⟨by rw [hs.out]; rfl, rfl⟩
end Go.Proofs.YtgebghkcikmfaaaGreatDoor

/-
  The walk of the model's l3Sum: the sum that a frame's Sum must be. By the verifier.
-/
namespace Go.Proofs.YtgebghkcikmfaaaGreatDoor
open Go.RowKit

/-- The frame with Sum 0. -/
def Fr.zeroSum (f : Fr) : Fr := { f with sum := 0 }
/-- What is summed: what it is shown as from Src on. -/
def Fr.inner (f : Fr) : ByteArray := strB (f.mid ++ bytesB f.body)
/-- What Sum must be. -/
def Fr.sumOf (f : Fr) : Int := sum16 f.zeroSum.inner
set_option maxHeartbeats 1600000 in
set_option maxRecDepth 100000 in
theorem specL3Sum (f : Fr) (a : Option Addr) (cap : Nat) (w : World) (ok : Hid f.Shows) :
    Calls Tryz.prog 125 #[f.val a cap] w fun e w' => e = .returned (.int .i64 f.sumOf) ∧ Below w.heap.size w w' := by
  have ok' : f.zeroSum.Shows := by
    obtain ⟨h0, h1, h2, h4, h5, h6, h8, hB⟩ := ok.out
    exact ⟨h0, h1, h2, h4, h5, h6, Int.le_refl _, hB⟩
  have L := fun w1 => specInner f.zeroSum a cap w1 ok'
  have hI : (f.zeroSum.mid ++ bytesB f.zeroSum.body).length ≤ 100018 := by have := ok'.2.2.2.2.2.2.2; rw [List.length_append, Fr.mid_length, bytesB_length]; omega
  have hI0 : 0 < (f.zeroSum.mid ++ bytesB f.zeroSum.body).length := by rw [List.length_append, Fr.mid_length]; omega
  have hS : Hid (f.sumOf = sum16 (strB (f.zeroSum.mid ++ bytesB f.zeroSum.body))) := rfl
  generalize f.sumOf = sm at hS ⊢
  generalize f.zeroSum.mid ++ bytesB f.zeroSum.body = I at hI hI0 L hS ⊢
  have hsz : (strB I).size ≤ 1048576 := by rw [strB_size]; omega
  clear ok ok'
  obtain ⟨tt, frm, tags, src, dst, proto, sport, dport, mark, sum, body⟩ := f
  simp only [Fr.val, Fr.zeroSum] at L ⊢
  generalize tags.length = len at L ⊢
  have L' : Hid _ := L
  clear L
  go_enter Tryz.func125, Tryz.ntmps125
  go_upto_region 2 with fail
  have hbox := Boxed.new w #[.int .i64 tt, .int .i64 frm, .slice a len cap, .int .i64 src, .int .i64 dst, .int .i64 proto, .int .i64 sport, .int .i64 dport, .int .i64 mark, .int .i64 0, .string body] 175
  generalize hw1 : w.alloc (.cells #[.int .i64 tt, .int .i64 frm, .slice a len cap, .int .i64 src, .int .i64 dst, .int .i64 proto, .int .i64 sport, .int .i64 dport, .int .i64 mark, .int .i64 0, .string body] 175) = w1 at hbox ⊢
  have hs1 : w1.heap.size = w.heap.size + 1 := by rw [← hw1]; simp
  have Hw1 : Hid (∀ w', Below w1.heap.size w1 w' → Below w.heap.size w w') := by
    show ∀ w', _
    intro w' g; rw [← hw1] at g; exact below_of_alloc (by simpa using g)
  have H0 : Hid (Boxed w1 w.heap.size _ _) := hbox
  clear hbox hw1 hs1
  go_wp2_with (first | (refine wpList_load_row rfl 175 (.tmp 1) rfl w.heap.size rfl _ _ _ _ H0.out Tryz.underlying175 rfl (by kernel_rfl) ?_) | (go_at_call 184; refine (L'.out _).mono ?_; rintro e w2 ⟨v2, rfl, r2, b2⟩; obtain ⟨g2, cap2, rfl⟩ := r2.form hI0; have k1 := r2.conv; have k2 := r2.bytes; have K2 : Hid (Below w1.heap.size w1 w2) := b2; clear r2 b2) | (go_at_call 183; refine (specSum16 _ hsz _).mono ?_; rintro e w3 ⟨rfl, rfl⟩))
  go_ret
  exact ⟨by rw [hS.out]; rfl, Hw1.out _ K2.out⟩
end Go.Proofs.YtgebghkcikmfaaaGreatDoor

/-
  The longest route that fits, as plain data; bit by bit it is found in the half that the address belongs to. By the verifier.
-/
namespace Go.Proofs.YtgebghkcikmfaaaGreatDoor
open Go.RowKit

/-- One route more looked at. -/
def hopStep (addr : Int) (s : Int × Int) (r : Rt) : Int × Int := if s.1 < r.bits ∧ fitB r.net r.bits addr = true then (r.bits, r.hop) else s
/-- The hop of the longest that fits. -/
def hopL (l : List Rt) (addr : Int) : Int := (l.foldl (hopStep addr) (-1, -1)).2

theorem fold_filter (addr : Int) (l : List Rt) : ∀ s, l.foldl (hopStep addr) s = (l.filter fun r => fitB r.net r.bits addr).foldl (hopStep addr) s := by
  induction l with
  | nil => intro s; rfl
  | cons r l ih =>
    intro s
    cases hf : fitB r.net r.bits addr
    · rw [List.filter_cons_of_neg (by simp [hf]), List.foldl_cons, ih]
      congr 1
      simp [hopStep, hf]
    · rw [List.filter_cons_of_pos (by simp [hf]), List.foldl_cons, List.foldl_cons, ih]
theorem fold_pos (addr : Int) (l : List Rt) (h : ∀ r ∈ l, 0 ≤ r.hop) (s : Int × Int) (hs : 0 ≤ s.2) : 0 ≤ (l.foldl (hopStep addr) s).2 := by
  induction l generalizing s with
  | nil => exact hs
  | cons r l ih =>
    rw [List.foldl_cons]
    refine ih (fun x hx => h x (List.mem_cons_of_mem _ hx)) _ ?_
    unfold hopStep
    split
    · exact h r List.mem_cons_self
    · exact hs
/-- Where all that fit are longer than what was found, nothing hangs on what was found. -/
theorem fold_over (addr : Int) (l : List Rt) (s : Int × Int) (h : ∀ r ∈ l, 0 ≤ r.hop ∧ s.1 < r.bits ∧ 0 ≤ r.bits) (hf : ∀ r ∈ l, fitB r.net r.bits addr = true) :
    (l.foldl (hopStep addr) s).2 = if (l.foldl (hopStep addr) (-1, -1)).2 = -1 then s.2 else (l.foldl (hopStep addr) (-1, -1)).2 := by
  cases l with
  | nil => simp
  | cons r l =>
    obtain ⟨h1, h2, h3⟩ := h r List.mem_cons_self
    have e1 : hopStep addr s r = (r.bits, r.hop) := by unfold hopStep; rw [if_pos ⟨h2, hf r List.mem_cons_self⟩]
    have e2 : hopStep addr (-1, -1) r = (r.bits, r.hop) := by unfold hopStep; rw [if_pos ⟨by show (-1 : Int) < _; omega, hf r List.mem_cons_self⟩]
    rw [List.foldl_cons, List.foldl_cons, e1, e2]
    have := fold_pos addr l (fun x hx => (h x (List.mem_cons_of_mem _ hx)).1) (r.bits, r.hop) h1
    rw [if_neg (by omega)]

/-- The bit at a depth. -/
def bitV (n : Int) (d : Nat) : Int := n / 2 ^ (31 - d) % 2
theorem bitV_in (n : Int) (d : Nat) : bitV n d = 0 ∨ bitV n d = 1 := by unfold bitV; omega
theorem pow_half {d : Nat} (hd : d ≤ 31) : (2 : Int) ^ (32 - d) = 2 ^ (31 - d) * 2 := by
  rw [show 32 - d = 31 - d + 1 by omega, Int.pow_succ]
theorem bit_split {n p : Int} {d : Nat} (hd : d ≤ 31) (h : n / 2 ^ (32 - d) = p) : n / 2 ^ (31 - d) = 2 * p + bitV n d := by
  have e : n / 2 ^ (32 - d) = n / 2 ^ (31 - d) / 2 := by
    rw [pow_half hd, Int.ediv_ediv_of_nonneg (Int.le_of_lt (pow_pos' _))]
  rw [e] at h
  unfold bitV
  omega

/-- Right routes in order whose first d bits are those of p. -/
structure TrieOk (l : List Rt) (d : Nat) (p : Int) : Prop where
  each : ∀ r ∈ l, r.ok = true ∧ (d : Int) ≤ r.bits ∧ r.net / 2 ^ (32 - d) = p
  sorted : l.Pairwise fun a b => a.lt b = true

theorem ok_split {r : Rt} (h : r.ok = true) : (0 ≤ r.bits ∧ r.bits ≤ 32) ∧ (0 ≤ r.net ∧ r.net ≤ 4294967295) ∧ r.net % 2 ^ (32 - r.bits).toNat = 0 ∧ (0 ≤ r.hop ∧ r.hop ≤ 99) := by
  unfold Rt.ok netB at h
  simp only [Bool.and_eq_true, decide_eq_true_eq, inB_true] at h
  obtain ⟨⟨h1, h2, h3⟩, h4⟩ := h
  exact ⟨h1, h2, h3, h4⟩
theorem lt_iff {a b : Rt} : a.lt b = true ↔ a.net < b.net ∨ a.net = b.net ∧ a.bits < b.bits := by unfold Rt.lt; rw [decide_eq_true_iff]
theorem net_of {r : Rt} {d : Nat} {p : Int} (hd : d ≤ 32) (h : r.ok = true) (hb : r.bits = d) (hp : r.net / 2 ^ (32 - d) = p) : r.net = p * 2 ^ (32 - d) := by
  obtain ⟨_, _, h3, _⟩ := ok_split h
  rw [hb, show (32 - (d : Int)).toNat = 32 - d by omega] at h3
  have := Int.mul_ediv_add_emod r.net (2 ^ (32 - d))
  rw [h3, hp, Int.mul_comm] at this
  omega
theorem net_ge {r : Rt} {d : Nat} {p : Int} (hp : r.net / 2 ^ (32 - d) = p) : p * 2 ^ (32 - d) ≤ r.net := by
  rw [← hp]; exact Int.ediv_mul_le _ (by have := pow_pos' (32 - d); omega)

/-- Behind the first one all are longer. -/
theorem TrieOk.rest {x : Rt} {t : List Rt} {d : Nat} {p : Int} (hd : d ≤ 32) (h : TrieOk (x :: t) d p) : (x.bits = d → ∀ r ∈ t, (d : Int) + 1 ≤ r.bits) ∧ (x.bits ≠ d → ∀ r ∈ x :: t, (d : Int) + 1 ≤ r.bits) := by
  obtain ⟨hx, hlt⟩ := List.pairwise_cons.1 h.sorted
  have hex := h.each x List.mem_cons_self
  constructor
  · intro hb r hr
    have her := h.each r (List.mem_cons_of_mem _ hr)
    apply Classical.byContradiction
    intro hn
    have hrb : r.bits = d := by omega
    have e1 := net_of hd hex.1 hb hex.2.2
    have e2 := net_of hd her.1 hrb her.2.2
    have := lt_iff.1 (hx r hr)
    omega
  · intro hb r hr
    have her := h.each r hr
    apply Classical.byContradiction
    intro hn
    have hrb : r.bits = d := by omega
    have e2 := net_of hd her.1 hrb her.2.2
    have e1 := net_ge hex.2.2
    rcases List.mem_cons.1 hr with rfl | hr'
    · exact hb hrb
    · have := lt_iff.1 (hx r hr')
      omega
theorem TrieOk.two {l : List Rt} {d : Nat} {p : Int} (hd : d ≤ 32) (h : TrieOk l d p) (h2 : 2 ≤ l.length) : d ≤ 31 := by
  match l, h2 with
  | x :: y :: t, _ =>
    have hr := h.rest hd
    have hy := (ok_split (h.each y (by simp)).1).1
    by_cases hb : x.bits = d
    · have := hr.1 hb y (by simp); omega
    · have := hr.2 hb y (by simp); omega

/-- The two halves. -/
theorem TrieOk.halves {l : List Rt} {d : Nat} {p : Int} (hd : d ≤ 31) (h : TrieOk l d p) (hdeep : ∀ r ∈ l, (d : Int) + 1 ≤ r.bits) (k : Nat) (h0 : ∀ i, i < k → bitV (rtAt l i).net d = 0) (h1 : k < l.length → bitV (rtAt l k).net d = 1) :
    TrieOk (l.take k) (d + 1) (2 * p) ∧ TrieOk (l.drop k) (d + 1) (2 * p + 1) := by
  have q : ∀ r ∈ l, r.net / 2 ^ (32 - (d + 1)) = 2 * p + bitV r.net d := by
    intro r hr
    have := bit_split hd (h.each r hr).2.2
    rwa [show 31 - d = 32 - (d + 1) by omega] at this
  constructor
  · refine ⟨fun r hr => ?_, h.sorted.sublist (List.take_sublist _ _)⟩
    have hm := List.mem_of_mem_take hr
    refine ⟨(h.each r hm).1, by have := hdeep r hm; omega, ?_⟩
    rw [q r hm]
    obtain ⟨i, hi, rfl⟩ := List.mem_iff_getElem.1 hr
    have hik : i < k := by simp at hi; omega
    have hil : i < l.length := by simp at hi; omega
    have := h0 i hik
    rw [rtAt_lt hil] at this
    rw [List.getElem_take, this]
    omega
  · refine ⟨fun r hr => ?_, h.sorted.sublist (List.drop_sublist _ _)⟩
    have hm := List.mem_of_mem_drop hr
    refine ⟨(h.each r hm).1, by have := hdeep r hm; omega, ?_⟩
    rw [q r hm]
    obtain ⟨i, hi, rfl⟩ := List.mem_iff_getElem.1 hr
    have hkl : k + i < l.length := by simp at hi; omega
    have hk : k < l.length := by omega
    have hb := h1 hk
    rw [rtAt_lt hk] at hb
    rw [List.getElem_drop]
    have hle : l[k].net ≤ l[k + i].net := by
      by_cases hi0 : i = 0
      · subst hi0; exact Int.le_refl _
      · have := lt_iff.1 (List.pairwise_iff_getElem.1 h.sorted k (k + i) hk hkl (by omega))
        omega
    have e1 := q l[k] (List.getElem_mem _)
    have e2 := q l[k + i] (List.getElem_mem _)
    have := Int.ediv_le_ediv (pow_pos' (32 - (d + 1))) hle
    have := bitV_in l[k + i].net d
    omega

theorem fit_iff {r : Rt} {addr : Int} (h : r.ok = true) : fitB r.net r.bits addr = true ↔ r.net / 2 ^ (32 - r.bits).toNat = addr / 2 ^ (32 - r.bits).toNat := by
  unfold fitB
  rw [decide_eq_true_iff, fit_two (ok_split h).2.2.1]
/-- What fits has its bit. -/
theorem fit_bit {r : Rt} {addr : Int} {d : Nat} (hd : d ≤ 31) (h : r.ok = true) (hb : (d : Int) + 1 ≤ r.bits) (hf : fitB r.net r.bits addr = true) : bitV r.net d = bitV addr d := by
  have e := (fit_iff h).1 hf
  have hk := (ok_split h).1
  obtain ⟨s, hs⟩ : ∃ s, (32 - r.bits).toNat = s := ⟨_, rfl⟩
  rw [hs] at e
  obtain ⟨t, ht⟩ : ∃ t, 31 - d = s + t := ⟨31 - d - s, by omega⟩
  have f : ∀ n : Int, n / 2 ^ (31 - d) = n / 2 ^ s / 2 ^ t := by
    intro n
    rw [ht, Int.pow_add, Int.ediv_ediv_of_nonneg (Int.le_of_lt (pow_pos' _))]
  unfold bitV
  rw [f, f, e]
theorem fit_own {r : Rt} {addr p : Int} {d : Nat} (hd : d ≤ 32) (h : r.ok = true) (hb : r.bits = d) (hp : r.net / 2 ^ (32 - d) = p) (ha : addr / 2 ^ (32 - d) = p) : fitB r.net r.bits addr = true := by
  rw [fit_iff h, hb, show (32 - (d : Int)).toNat = 32 - d by omega, hp, ha]

theorem hop_half {l : List Rt} {d : Nat} (hd : d ≤ 31) (hok : ∀ r ∈ l, r.ok = true) (hdeep : ∀ r ∈ l, (d : Int) + 1 ≤ r.bits) (addr : Int) (hbit : ∀ r ∈ l, bitV r.net d ≠ bitV addr d) : (l.filter fun r => fitB r.net r.bits addr) = [] := by
  rw [List.filter_eq_nil_iff]
  intro r hr hf
  exact hbit r hr (fit_bit hd (hok r hr) (hdeep r hr) hf)

/-- Found in the half that the address belongs to, or what ends here. -/
theorem hop_halves {l : List Rt} {d : Nat} {p : Int} (hd : d ≤ 31) (h : TrieOk l d p) (hdeep : ∀ r ∈ l, (d : Int) + 1 ≤ r.bits) (k : Nat) (h0 : ∀ i, i < k → bitV (rtAt l i).net d = 0) (h1 : k < l.length → bitV (rtAt l k).net d = 1) (addr : Int) :
    hopL l addr = if bitV addr d = 0 then hopL (l.take k) addr else hopL (l.drop k) addr := by
  obtain ⟨hz, ho⟩ := h.halves hd hdeep k h0 h1
  have hl : l = l.take k ++ l.drop k := (List.take_append_drop k l).symm
  have bz : ∀ r ∈ l.take k, bitV r.net d = 0 := by
    intro r hr
    have e := (hz.each r hr).2.2
    have := bit_split hd (h.each r (List.mem_of_mem_take hr)).2.2
    rw [show 31 - d = 32 - (d + 1) by omega] at this
    omega
  have bo : ∀ r ∈ l.drop k, bitV r.net d = 1 := by
    intro r hr
    have e := (ho.each r hr).2.2
    have := bit_split hd (h.each r (List.mem_of_mem_drop hr)).2.2
    rw [show 31 - d = 32 - (d + 1) by omega] at this
    omega
  have key : (l.filter fun r => fitB r.net r.bits addr) = (l.take k).filter (fun r => fitB r.net r.bits addr) ++ (l.drop k).filter (fun r => fitB r.net r.bits addr) := by
    rw [← List.filter_append, ← hl]
  unfold hopL
  rw [fold_filter, key]
  by_cases hb : bitV addr d = 0
  · rw [if_pos hb, hop_half (l := l.drop k) hd (fun r hr => (ho.each r hr).1) (fun r hr => hdeep r (List.mem_of_mem_drop hr)) addr (fun r hr => by rw [bo r hr]; omega), List.append_nil, ← fold_filter]
  · rw [if_neg hb, hop_half (l := l.take k) hd (fun r hr => (hz.each r hr).1) (fun r hr => hdeep r (List.mem_of_mem_take hr)) addr (fun r hr => by rw [bz r hr]; omega), List.nil_append, ← fold_filter]
theorem hop_cons {x : Rt} {t : List Rt} {d : Nat} {p : Int} (hd : d ≤ 31) (h : TrieOk (x :: t) d p) (hb : x.bits = d) (addr : Int) (ha : addr / 2 ^ (32 - d) = p) :
    hopL (x :: t) addr = if hopL t addr = -1 then x.hop else hopL t addr := by
  have hex := h.each x List.mem_cons_self
  have hr := (h.rest (by omega)).1 hb
  have hf := fit_own (by omega) hex.1 hb hex.2.2 ha
  unfold hopL
  rw [List.foldl_cons]
  have e : hopStep addr (-1, -1) x = (x.bits, x.hop) := by
    unfold hopStep
    rw [if_pos ⟨by show (-1 : Int) < _; omega, hf⟩]
  rw [e, fold_filter addr t (x.bits, x.hop), fold_filter addr t (-1, -1)]
  refine fold_over addr _ _ (fun r hr' => ?_) (fun r hr' => by simpa using (List.mem_filter.1 hr').2)
  have hm := (List.mem_filter.1 hr').1
  have := hr r hm
  exact ⟨(ok_split (h.each r (List.mem_cons_of_mem _ hm)).1).2.2.2.1, by show x.bits < _; omega, by omega⟩
theorem hop_one (r : Rt) (addr : Int) (h : r.ok = true) : hopL [r] addr = if fitB r.net r.bits addr = true then r.hop else -1 := by
  have := (ok_split h).1
  unfold hopL hopStep
  simp only [List.foldl_cons, List.foldl_nil]
  cases fitB r.net r.bits addr
  · simp
  · simp [show (-1 : Int) < r.bits by omega]

theorem pairwise_of {l : List Rt} (h : goodTo l l.length = true) : l.Pairwise fun a b => a.lt b = true := by
  rw [List.pairwise_iff_getElem]
  unfold goodTo at h
  rw [List.all_eq_true] at h
  have adj : ∀ i, (hi : i + 1 < l.length) → l[i].lt l[i + 1] = true := by
    intro i hi
    have := h (i + 1) (List.mem_range.2 hi)
    unfold good at this
    rw [Bool.and_eq_true] at this
    have h2 := this.2
    simp only [Nat.add_sub_cancel] at h2
    rw [rtAt_lt (by omega), rtAt_lt hi] at h2
    simpa using h2
  intro i j hi hj hij
  induction j with
  | zero => omega
  | succ j ih =>
    have a := lt_iff.1 (adj j hj)
    by_cases e : i = j
    · subst e; exact lt_iff.2 a
    · have b := lt_iff.1 (ih (by omega) (by omega))
      exact lt_iff.2 (by omega)
theorem trieOk_of {l : List Rt} (h : rtsOk l = true) : TrieOk l 0 0 := by
  unfold rtsOk at h
  rw [Bool.and_eq_true] at h
  refine ⟨fun r hr => ?_, pairwise_of h.2⟩
  obtain ⟨i, hi, rfl⟩ := List.mem_iff_getElem.1 hr
  have h2 := h.2
  unfold goodTo at h2
  rw [List.all_eq_true] at h2
  have := h2 i (List.mem_range.2 hi)
  unfold good at this
  rw [Bool.and_eq_true, rtAt_lt hi] at this
  have hs := ok_split this.1
  exact ⟨this.1, by omega, by have : (2 : Int) ^ (32 - 0) = 4294967296 := by decide
                              rw [this]; omega⟩
end Go.Proofs.YtgebghkcikmfaaaGreatDoor

/-
  The walk of the model's ClassOf. By the verifier.
-/
namespace Go.Proofs.YtgebghkcikmfaaaGreatDoor
open Go.RowKit

theorem goodRs_all {l : List Ru} : ∀ {n : Nat}, goodRs l n = true → ∀ k, k < n → goodR l k = true := by
  intro n h k hk
  unfold goodRs at h
  rw [List.all_eq_true] at h
  exact h k (List.mem_range.2 hk)
theorem rus_ok {l : List Ru} (h : rusOk l = true) {k : Nat} (hk : k < l.length) : (ruAt l k).ok = true := by
  unfold rusOk at h
  rw [Bool.and_eq_true] at h
  have := goodRs_all h.2 k hk
  unfold goodR at this
  rw [Bool.and_eq_true] at this
  exact this.1
theorem rus_len {l : List Ru} (h : rusOk l = true) : l.length ≤ 40 := by
  unfold rusOk at h
  rw [Bool.and_eq_true, decide_eq_true_iff] at h
  exact h.1
/-- Which one of the first k goes ahead of all that match; -1: none matches. -/
def bestStep (l : List Ru) (f : Fr) (b : Int) (i : Nat) : Int := if ((ruAt l i).hits f && (decide (b < 0) || (ruAt l i).ahead (ruAt l b.toNat))) = true then i else b
def bestK (l : List Ru) (f : Fr) : Nat → Int
  | 0 => -1
  | k + 1 => bestStep l f (bestK l f k) k
theorem bestK_succ (l : List Ru) (f : Fr) (k : Nat) : bestK l f (k + 1) = bestStep l f (bestK l f k) k := rfl
def classL (l : List Ru) (f : Fr) : Int := if bestK l f l.length < 0 then 0 else (ruAt l (bestK l f l.length).toNat).cls
def classV (l : List Ru) (f : Fr) : Int := if rusOk l = true ∧ f.ok = true then classL l f else -1

set_option maxHeartbeats 12800000 in
set_option maxRecDepth 100000 in
theorem specClass (a0 : Option Addr) (cap : Nat) (l : List Ru) (f : Fr) (af : Option Addr) (cf : Nat) (w : World) (hl : rusOk l = true) (hf : f.ok = true) (h : Hid (RusAt w a0 l)) :
    Calls Tryz.prog 127 #[.slice a0 l.length cap, f.val af cf] w fun e w' => e = .returned (.int .i64 (classL l f)) ∧ Below w.heap.size w w' := by
  have Hv : Hid (classL l f = if bestK l f l.length < 0 then 0 else (ruAt l (bestK l f l.length).toNat).cls) := rfl
  have hlen40 := rus_len hl
  have HC := fun k (hk : k < l.length) w => specHits (ruAt l k) f af cf (rus_ok hl hk) hf w
  have HS0 : Hid (∀ b i, bestStep l f b i = if ((ruAt l i).hits f && (decide (b < 0) || (ruAt l i).ahead (ruAt l b.toNat))) = true then (i : Int) else b) := fun b i => rfl
  obtain ⟨len, hlen⟩ : ∃ n, l.length = n := ⟨_, rfl⟩
  rw [hlen] at Hv hlen40 HC ⊢
  have Hlen : Hid (l.length = len) := hlen
  clear hlen hl hf
  have Hb : Hid (∀ b, bestK l f (b + 1) = bestStep l f (bestK l f b) b) := fun b => rfl
  generalize classL l f = res at Hv ⊢
  generalize hFv : f.val af cf = fv at HC ⊢
  obtain ⟨f0, g1, ft, fs, fd, fp, sp, dp, mk, sm, fb⟩ := f
  simp only [Fr.val] at hFv
  subst hFv
  generalize ft.length = nf at HC ⊢
  have HC' : Hid _ := HC
  clear HC
  have X0 : Hid (Boxed (w.alloc (.cells #[.int .i64 f0, .int .i64 g1, .slice af nf cf, .int .i64 fs, .int .i64 fd, .int .i64 fp, .int .i64 sp, .int .i64 dp, .int .i64 mk, .int .i64 sm, .string fb] 175)) w.heap.size #[.int .i64 f0, .int .i64 g1, .slice af nf cf, .int .i64 fs, .int .i64 fd, .int .i64 fp, .int .i64 sp, .int .i64 dp, .int .i64 mk, .int .i64 sm, .string fb] 175) := Boxed.new _ _ _
  go_enter Tryz.func127, Tryz.ntmps127
  go_wp2
  go_loopw [5, 6] (fun best i wr => ∃ (k : Nat) (b : Int), k ≤ len ∧ best = .int .i64 b ∧ i = .int .i64 k ∧ bestK l ⟨f0, g1, ft, fs, fd, fp, sp, dp, mk, sm, fb⟩ k = b ∧ -1 ≤ b ∧ b < k ∧ Hid (Below w.heap.size w wr ∧ Boxed wr w.heap.size #[.int .i64 f0, .int .i64 g1, .slice af nf cf, .int .i64 fs, .int .i64 fd, .int .i64 fp, .int .i64 sp, .int .i64 dp, .int .i64 mk, .int .i64 sm, .string fb] 175)) (fun _ i _ => len - (intOf i).toNat)
  case atStart => exact ⟨0, -1, Nat.zero_le _, rfl, rfl, rfl, by omega, by omega, (Below.refl _ _).alloc (Nat.le_refl _) _, X0.out⟩
  case round =>
    clear X0
    obtain ⟨k, b, hk, rfl, rfl, hbk, b0, b1, hb⟩ := hrel
    have Hbk : Hid _ := hbk
    clear hbk
    by_cases hlt : k < len
    · have R : Hid (RusAt wr a0 l) := h.out.below hb.out.1
      have X : Hid (Boxed wr w.heap.size #[.int .i64 f0, .int .i64 g1, .slice af nf cf, .int .i64 fs, .int .i64 fd, .int .i64 fp, .int .i64 sp, .int .i64 dp, .int .i64 mk, .int .i64 sm, .string fb] 175) := hb.out.2
      obtain ⟨a1, o1, ha1, hb1, -⟩ := R.out k (by rw [Hlen.out]; exact hlt)
      subst ha1
      have hlt' : (k : Int) < (len : Int) := by omega
      have C := HC'.out k hlt
      have HS1 := HS0.out b k
      unfold Ru.val at C
      haveI : Nonempty (BelW wr.heap.size wr) := ⟨⟨wr, Below.refl _ _⟩⟩
      have f_0 := fun p : BelW wr.heap.size wr => ((R.out.below p.h).cells (k := k) (by rw [Hlen.out]; omega)).1
      have f_1 := fun p : BelW wr.heap.size wr => ((R.out.below p.h).cells (k := k) (by rw [Hlen.out]; omega)).2.1
      have f_2 := fun p : BelW wr.heap.size wr => ((R.out.below p.h).cells (k := k) (by rw [Hlen.out]; omega)).2.2.1
      have f_3 := fun p : BelW wr.heap.size wr => ((R.out.below p.h).cells (k := k) (by rw [Hlen.out]; omega)).2.2.2.1
      have f_4 := fun p : BelW wr.heap.size wr => ((R.out.below p.h).cells (k := k) (by rw [Hlen.out]; omega)).2.2.2.2.1
      have f_5 := fun p : BelW wr.heap.size wr => ((R.out.below p.h).cells (k := k) (by rw [Hlen.out]; omega)).2.2.2.2.2.1
      have f_6 := fun p : BelW wr.heap.size wr => ((R.out.below p.h).cells (k := k) (by rw [Hlen.out]; omega)).2.2.2.2.2.2.1
      have f_7 := fun p : BelW wr.heap.size wr => ((R.out.below p.h).cells (k := k) (by rw [Hlen.out]; omega)).2.2.2.2.2.2.2.1
      have f_8 := fun p : BelW wr.heap.size wr => ((R.out.below p.h).cells (k := k) (by rw [Hlen.out]; omega)).2.2.2.2.2.2.2.2.1
      have f_9 := fun p : BelW wr.heap.size wr => ((R.out.below p.h).cells (k := k) (by rw [Hlen.out]; omega)).2.2.2.2.2.2.2.2.2
      have y0 : ∀ p : BelW wr.heap.size wr, p.w'.cell? ⟨w.heap.size, 0, none⟩ = some (.int .i64 f0) := fun p => (X.out.below X.out.under p.h).cell 0 rfl
      have y1 : ∀ p : BelW wr.heap.size wr, p.w'.cell? ⟨w.heap.size, 1, none⟩ = some (.int .i64 g1) := fun p => (X.out.below X.out.under p.h).cell 1 rfl
      have y2 : ∀ p : BelW wr.heap.size wr, p.w'.cell? ⟨w.heap.size, 2, none⟩ = some (.slice af nf cf) := fun p => (X.out.below X.out.under p.h).cell 2 rfl
      have y3 : ∀ p : BelW wr.heap.size wr, p.w'.cell? ⟨w.heap.size, 3, none⟩ = some (.int .i64 fs) := fun p => (X.out.below X.out.under p.h).cell 3 rfl
      have y4 : ∀ p : BelW wr.heap.size wr, p.w'.cell? ⟨w.heap.size, 4, none⟩ = some (.int .i64 fd) := fun p => (X.out.below X.out.under p.h).cell 4 rfl
      have y5 : ∀ p : BelW wr.heap.size wr, p.w'.cell? ⟨w.heap.size, 5, none⟩ = some (.int .i64 fp) := fun p => (X.out.below X.out.under p.h).cell 5 rfl
      have y6 : ∀ p : BelW wr.heap.size wr, p.w'.cell? ⟨w.heap.size, 6, none⟩ = some (.int .i64 sp) := fun p => (X.out.below X.out.under p.h).cell 6 rfl
      have y7 : ∀ p : BelW wr.heap.size wr, p.w'.cell? ⟨w.heap.size, 7, none⟩ = some (.int .i64 dp) := fun p => (X.out.below X.out.under p.h).cell 7 rfl
      have y8 : ∀ p : BelW wr.heap.size wr, p.w'.cell? ⟨w.heap.size, 8, none⟩ = some (.int .i64 mk) := fun p => (X.out.below X.out.under p.h).cell 8 rfl
      have y9 : ∀ p : BelW wr.heap.size wr, p.w'.cell? ⟨w.heap.size, 9, none⟩ = some (.int .i64 sm) := fun p => (X.out.below X.out.under p.h).cell 9 rfl
      have y10 : ∀ p : BelW wr.heap.size wr, p.w'.cell? ⟨w.heap.size, 10, none⟩ = some (.string fb) := fun p => (X.out.below X.out.under p.h).cell 10 rfl
      generalize hhit : (ruAt l k).hits _ = hit at C HS1
      clear hhit
      cases hit
      · have HS : Hid (bestStep l ⟨f0, g1, ft, fs, fd, fp, sp, dp, mk, sm, fb⟩ (bestK l ⟨f0, g1, ft, fs, fd, fp, sp, dp, mk, sm, fb⟩ k) k = b) := by
          show _ = _
          rw [Hbk.out, HS1]; rfl
        clear HS1
        generalize ruAt l k = r at C f_0 f_1 f_2 f_3 f_4 f_5 f_6 f_7 f_8 f_9
        have C' : Hid _ := C
        clear C
        go_wp2
        refine region_below wr.heap.size (by kernel_rfl) (by kernel_rfl) ?_
        repeat (go_big_quiet_step ((go_at_call 186; refine quiet_below (Nat.le_refl _) (C'.out _))))
        refine wpQuiet_nil ?_
        intro wq hx
        have hq := BelW.out hx
        have B : Hid (Below w.heap.size w wq ∧ Boxed wq w.heap.size #[.int .i64 f0, .int .i64 g1, .slice af nf cf, .int .i64 fs, .int .i64 fd, .int .i64 fp, .int .i64 sp, .int .i64 dp, .int .i64 mk, .int .i64 sm, .string fb] 175) := ⟨hb.out.1.trans (hq.mono hb.out.1.size), X.out.below X.out.under hq⟩
        clear hx hq f_0 f_1 f_2 f_3 f_4 f_5 f_6 f_7 f_8 f_9 y0 y1 y2 y3 y4 y5 y6 y7 y8 y9 y10
        go_wp2
        go_roundw
        case rel => exact ⟨k + 1, b, by omega, rfl, by go_num, by rw [bestK_succ, HS.out], by omega, by omega, B⟩
        case measure => simp [intOf]; omega
      · by_cases hbn : b < 0
        · have HS : Hid (bestStep l ⟨f0, g1, ft, fs, fd, fp, sp, dp, mk, sm, fb⟩ (bestK l ⟨f0, g1, ft, fs, fd, fp, sp, dp, mk, sm, fb⟩ k) k = k) := by
            show _ = _
            rw [Hbk.out, HS1, decide_eq_true hbn]; rfl
          clear HS1
          generalize ruAt l k = r at C f_0 f_1 f_2 f_3 f_4 f_5 f_6 f_7 f_8 f_9
          have C' : Hid _ := C
          clear C
          go_wp2
          refine region_below wr.heap.size (by kernel_rfl) (by kernel_rfl) ?_
          repeat (go_big_quiet_step ((go_at_call 186; refine quiet_below (Nat.le_refl _) (C'.out _))))
          refine wpQuiet_nil ?_
          intro wq hx
          have hq := BelW.out hx
          have B : Hid (Below w.heap.size w wq ∧ Boxed wq w.heap.size #[.int .i64 f0, .int .i64 g1, .slice af nf cf, .int .i64 fs, .int .i64 fd, .int .i64 fp, .int .i64 sp, .int .i64 dp, .int .i64 mk, .int .i64 sm, .string fb] 175) := ⟨hb.out.1.trans (hq.mono hb.out.1.size), X.out.below X.out.under hq⟩
          clear hx hq f_0 f_1 f_2 f_3 f_4 f_5 f_6 f_7 f_8 f_9 y0 y1 y2 y3 y4 y5 y6 y7 y8 y9 y10
          go_wp2
          go_roundw
          case rel => exact ⟨k + 1, (k : Int), by omega, rfl, by go_num, by rw [bestK_succ, HS.out], by omega, by omega, B⟩
          case measure => simp [intOf]; omega
        · obtain ⟨m, rfl⟩ := Int.eq_ofNat_of_zero_le (show 0 ≤ b by omega)
          have D := fun w => (specAhead (ruAt l k) (ruAt l m) w).mono fun e w' (q : e = .returned (.bool ((ruAt l k).ahead (ruAt l m))) ∧ w' = _) => (⟨q.1, by rw [q.2]; exact ((Below.refl _ _).alloc (Nat.le_refl _) _).alloc (by simp) _⟩ : e = .returned (.bool ((ruAt l k).ahead (ruAt l m))) ∧ Below w.heap.size w w')
          have HS2 : bestStep l ⟨f0, g1, ft, fs, fd, fp, sp, dp, mk, sm, fb⟩ (m : Int) k = if ((ruAt l k).ahead (ruAt l m)) = true then (k : Int) else (m : Int) := by rw [HS1, decide_eq_false hbn]; rfl
          have hm1 : (m : Int) < (len : Int) := by omega
          have hm2 : decide ((m : Int) < 0) = false := decide_eq_false (by omega)
          clear HS1 hbn
          have m_0 := fun p : BelW wr.heap.size wr => ((R.out.below p.h).cells (k := m) (by rw [Hlen.out]; omega)).1
          have m_1 := fun p : BelW wr.heap.size wr => ((R.out.below p.h).cells (k := m) (by rw [Hlen.out]; omega)).2.1
          have m_2 := fun p : BelW wr.heap.size wr => ((R.out.below p.h).cells (k := m) (by rw [Hlen.out]; omega)).2.2.1
          have m_3 := fun p : BelW wr.heap.size wr => ((R.out.below p.h).cells (k := m) (by rw [Hlen.out]; omega)).2.2.2.1
          have m_4 := fun p : BelW wr.heap.size wr => ((R.out.below p.h).cells (k := m) (by rw [Hlen.out]; omega)).2.2.2.2.1
          have m_5 := fun p : BelW wr.heap.size wr => ((R.out.below p.h).cells (k := m) (by rw [Hlen.out]; omega)).2.2.2.2.2.1
          have m_6 := fun p : BelW wr.heap.size wr => ((R.out.below p.h).cells (k := m) (by rw [Hlen.out]; omega)).2.2.2.2.2.2.1
          have m_7 := fun p : BelW wr.heap.size wr => ((R.out.below p.h).cells (k := m) (by rw [Hlen.out]; omega)).2.2.2.2.2.2.2.1
          have m_8 := fun p : BelW wr.heap.size wr => ((R.out.below p.h).cells (k := m) (by rw [Hlen.out]; omega)).2.2.2.2.2.2.2.2.1
          have m_9 := fun p : BelW wr.heap.size wr => ((R.out.below p.h).cells (k := m) (by rw [Hlen.out]; omega)).2.2.2.2.2.2.2.2.2
          unfold Ru.val at D
          generalize hah : (ruAt l k).ahead (ruAt l m) = ah at D HS2
          clear hah
          generalize ruAt l m = r2 at D m_0 m_1 m_2 m_3 m_4 m_5 m_6 m_7 m_8 m_9
          generalize ruAt l k = r at C D f_0 f_1 f_2 f_3 f_4 f_5 f_6 f_7 f_8 f_9
          have C' : Hid _ := C
          have D' : Hid _ := D
          clear C D
          cases ah
          · have HS : Hid (bestStep l ⟨f0, g1, ft, fs, fd, fp, sp, dp, mk, sm, fb⟩ (bestK l ⟨f0, g1, ft, fs, fd, fp, sp, dp, mk, sm, fb⟩ k) k = m) := by
              show _ = _
              rw [Hbk.out, HS2]; rfl
            clear HS2
            go_wp2
            refine region_below wr.heap.size (by kernel_rfl) (by kernel_rfl) ?_
            repeat (go_big_quiet_step ((first | (go_at_call 186; refine quiet_below (Nat.le_refl _) (C'.out _)) | (go_at_call 187; refine quiet_below (Nat.le_refl _) (D'.out _)))))
            refine wpQuiet_nil ?_
            intro wq hx
            have hq := BelW.out hx
            have B : Hid (Below w.heap.size w wq ∧ Boxed wq w.heap.size #[.int .i64 f0, .int .i64 g1, .slice af nf cf, .int .i64 fs, .int .i64 fd, .int .i64 fp, .int .i64 sp, .int .i64 dp, .int .i64 mk, .int .i64 sm, .string fb] 175) := ⟨hb.out.1.trans (hq.mono hb.out.1.size), X.out.below X.out.under hq⟩
            clear hx hq f_0 f_1 f_2 f_3 f_4 f_5 f_6 f_7 f_8 f_9 m_0 m_1 m_2 m_3 m_4 m_5 m_6 m_7 m_8 m_9 y0 y1 y2 y3 y4 y5 y6 y7 y8 y9 y10
            go_wp2
            go_roundw
            case rel => exact ⟨k + 1, (m : Int), by omega, rfl, by go_num, by rw [bestK_succ, HS.out], by omega, by omega, B⟩
            case measure => simp [intOf]; omega
          · have HS : Hid (bestStep l ⟨f0, g1, ft, fs, fd, fp, sp, dp, mk, sm, fb⟩ (bestK l ⟨f0, g1, ft, fs, fd, fp, sp, dp, mk, sm, fb⟩ k) k = k) := by
              show _ = _
              rw [Hbk.out, HS2]; rfl
            clear HS2
            go_wp2
            refine region_below wr.heap.size (by kernel_rfl) (by kernel_rfl) ?_
            repeat (go_big_quiet_step ((first | (go_at_call 186; refine quiet_below (Nat.le_refl _) (C'.out _)) | (go_at_call 187; refine quiet_below (Nat.le_refl _) (D'.out _)))))
            refine wpQuiet_nil ?_
            intro wq hx
            have hq := BelW.out hx
            have B : Hid (Below w.heap.size w wq ∧ Boxed wq w.heap.size #[.int .i64 f0, .int .i64 g1, .slice af nf cf, .int .i64 fs, .int .i64 fd, .int .i64 fp, .int .i64 sp, .int .i64 dp, .int .i64 mk, .int .i64 sm, .string fb] 175) := ⟨hb.out.1.trans (hq.mono hb.out.1.size), X.out.below X.out.under hq⟩
            clear hx hq f_0 f_1 f_2 f_3 f_4 f_5 f_6 f_7 f_8 f_9 m_0 m_1 m_2 m_3 m_4 m_5 m_6 m_7 m_8 m_9 y0 y1 y2 y3 y4 y5 y6 y7 y8 y9 y10
            go_wp2
            go_roundw
            case rel => exact ⟨k + 1, (k : Int), by omega, rfl, by go_num, by rw [bestK_succ, HS.out], by omega, by omega, B⟩
            case measure => simp [intOf]; omega
    · obtain rfl : k = len := by omega
      have Hres : Hid (res = if b < 0 then 0 else (ruAt l b.toNat).cls) := by show res = _; rw [Hv.out, Hbk.out]
      by_cases hbn : b < 0
      · have e : Hid (res = 0) := by show res = 0; rw [Hres.out, if_pos hbn]
        go_wp2
        go_ret
        exact ⟨by rw [e.out]; rfl, hb.out.1⟩
      · obtain ⟨m, rfl⟩ := Int.eq_ofNat_of_zero_le (show 0 ≤ b by omega)
        have e : Hid (res = (ruAt l m).cls) := by show res = _; rw [Hres.out, if_neg hbn]; rfl
        have R : Hid (RusAt wr a0 l) := h.out.below hb.out.1
        obtain ⟨a1, o1, ha1, hb1, -⟩ := R.out m (by rw [Hlen.out]; omega)
        subst ha1
        have c9 := (R.out.cells (k := m) (by rw [Hlen.out]; omega)).2.2.2.2.2.2.2.2.2
        generalize ruAt l m = r at c9 e
        go_wp2
        go_ret
        exact ⟨by rw [e.out]; rfl, hb.out.1⟩
end Go.Proofs.YtgebghkcikmfaaaGreatDoor

/-
  What comes in at a gate, in plain words. By the verifier.
-/
namespace Go.Proofs.YtgebghkcikmfaaaGreatDoor
open Go.RowKit

/-- The leaf of a frame. -/
def Gt.leafI (g : Gt) (f : Fr) : Int := (10 * hopL g.routes f.dst + classL g.rules f) % (g.leaves.length : Int)
def Gt.leafOf (g : Gt) (f : Fr) : Nat := (g.leafI f).toNat
/-- What becomes of it. -/
def Gt.inn (g : Gt) (s : ByteArray) : Gt × Int :=
  if (sRun s).2 ≠ 0 then (g, (sRun s).2)
  else if (sRun s).1.sum ≠ (sRun s).1.sumOf then (g, 10)
  else if hopL g.routes (sRun s).1.dst < 0 then (g, 11)
  else if inB 1 2000 (g.ln.takes s.size) = false then (g, 12)
  else if g.draw < (srAt g.steers (g.leafOf (sRun s).1)).prob then (g.drawn, 13)
  else if g.full (g.leafOf (sRun s).1) = true then (g.drawn, 14)
  else (g.drawn.put (g.leafOf (sRun s).1) s.size, 0)
/-- What is read is right, and not long. -/
theorem read_ok {s : ByteArray} (h : (sRun s).2 = 0) : (sRun s).1.Ok ∧ (s.size : Int) ≤ 1529 ∧ (23 : Int) ≤ s.size := by
  have e : sRun s = ((sRun s).1, 0) := by rw [← h]
  have b := back_show s _ e
  have ok := (run_back s _ e).1
  have z := show_size _ ok
  rw [b] at z
  obtain ⟨h1, h2, h3, h4, h5, h6, h7, h8, h9, h10, h11, h12⟩ := ok
  exact ⟨⟨h1, h2, h3, h4, h5, h6, h7, h8, h9, h10, h11, h12⟩, by omega, by omega⟩
theorem Gt.inn_ok {g : Gt} {s : ByteArray} (h : g.ok = true) : (g.inn s).1.ok = true := by
  unfold Gt.inn
  split
  · exact h
  split
  · exact h
  split
  · exact h
  split
  · exact h
  rename_i e1 e2 e3 e4
  have e1' : (sRun s).2 = 0 := by simpa using e1
  have r := read_ok e1'
  split
  · exact Gt.drawn_ok h
  split
  · exact Gt.drawn_ok h
  · rename_i e5 e6
    have hd := Gt.drawn_ok h
    have hh := Gt.head_iff.1 (Gt.ok_iff.1 h).1
    have e4' : inB 1 2000 (g.ln.takes s.size) = true := by simpa using e4
    rw [inB_true] at e4'
    refine Gt.put_ok hd ?_ ?_ ⟨by omega, by omega⟩ e4'
    · show g.leafOf _ < g.leaves.length
      unfold Gt.leafOf Gt.leafI
      have h1 := Int.emod_lt_of_pos (10 * hopL g.routes (sRun s).1.dst + classL g.rules (sRun s).1) (b := (g.leaves.length : Int)) (by omega)
      have h2 := Int.emod_nonneg (10 * hopL g.routes (sRun s).1.dst + classL g.rules (sRun s).1) (b := (g.leaves.length : Int)) (by omega)
      omega
    · show g.full _ = false
      simpa using e6
end Go.Proofs.YtgebghkcikmfaaaGreatDoor

/-
  Bounds: hops of right routes, classes of right rules. By the verifier.
-/
namespace Go.Proofs.YtgebghkcikmfaaaGreatDoor
open Go.RowKit

theorem rtsOk_len {l : List Rt} (h : rtsOk l = true) : l.length ≤ 64 := by
  unfold rtsOk at h
  simp only [Bool.and_eq_true, decide_eq_true_eq] at h
  exact h.1
theorem rtsOk_at {l : List Rt} (h : rtsOk l = true) {k : Nat} (hk : k < l.length) : (rtAt l k).ok = true := by
  unfold rtsOk at h
  simp only [Bool.and_eq_true, decide_eq_true_eq] at h
  have := h.2
  unfold goodTo at this
  rw [List.all_eq_true] at this
  have g := this k (by simpa using hk)
  unfold good at g
  simp only [Bool.and_eq_true] at g
  exact g.1
theorem rtsOk_bits {l : List Rt} (h : rtsOk l = true) : ∀ k, k < l.length → inB 0 32 (rtAt l k).bits = true := by
  intro k hk
  have := rtsOk_at h hk
  unfold Rt.ok at this
  simp only [Bool.and_eq_true] at this
  exact (netB_parts this.1).1
theorem hop_in (addr lo hi : Int) : ∀ (l : List Rt) (s : Int × Int), (∀ r ∈ l, lo ≤ r.hop ∧ r.hop ≤ hi) → lo ≤ s.2 ∧ s.2 ≤ hi → lo ≤ (l.foldl (hopStep addr) s).2 ∧ (l.foldl (hopStep addr) s).2 ≤ hi
  | [], _, _, h => h
  | r :: l, s, h, hs => by
    rw [List.foldl_cons]
    refine hop_in addr lo hi l _ (fun x hx => h x (List.mem_cons_of_mem _ hx)) ?_
    unfold hopStep
    split
    · exact h r (List.mem_cons_self ..)
    · exact hs
theorem hopL_in {l : List Rt} (h : rtsOk l = true) (addr : Int) : -1 ≤ hopL l addr ∧ hopL l addr ≤ 99 := by
  unfold hopL
  refine hop_in addr (-1) 99 l (-1, -1) (fun r hr => ?_) (by constructor <;> decide)
  obtain ⟨k, hk, rfl⟩ := List.getElem_of_mem hr
  have g := rtsOk_at h hk
  rw [rtAt_lt hk] at g
  unfold Rt.ok at g
  simp only [Bool.and_eq_true, inB_true] at g
  omega
theorem bestK_in (l : List Ru) (f : Fr) : ∀ k, k ≤ l.length → -1 ≤ bestK l f k ∧ bestK l f k < k
  | 0, _ => ⟨by show (-1 : Int) ≤ -1; decide, by show (-1 : Int) < ((0 : Nat) : Int); decide⟩
  | k + 1, h => by
    have ih := bestK_in l f k (by omega)
    rw [bestK_succ]
    unfold bestStep
    split
    · constructor <;> omega
    · constructor <;> omega
theorem classL_in {l : List Ru} (h : rusOk l = true) (f : Fr) : 0 ≤ classL l f ∧ classL l f ≤ 15 := by
  unfold classL
  have hb := bestK_in l f l.length (Nat.le_refl _)
  split
  · constructor <;> decide
  · unfold rusOk at h
    simp only [Bool.and_eq_true, decide_eq_true_eq] at h
    have g := goodRs_all h.2 (bestK l f l.length).toNat (by omega)
    unfold goodR at g
    simp only [Bool.and_eq_true] at g
    have g := g.1
    unfold Ru.ok at g
    simp only [Bool.and_eq_true, inB_true] at g
    omega
end Go.Proofs.YtgebghkcikmfaaaGreatDoor
