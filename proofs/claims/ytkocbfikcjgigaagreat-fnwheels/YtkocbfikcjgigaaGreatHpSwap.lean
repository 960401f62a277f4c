/-
  Two dues of a heap change places: the program's Swap. By the verifier, by program.
-/
import Derived.Test.YtkocbfikcjgigaaGreatM20HpMeth
import Derived.Test.YtkocbfikcjgigaaGreatM9RegList
import Derived.Test.YtkocbfikcjgigaaGreatOpStep
namespace Go.Proofs.YtkocbfikcjgigaaGreat
open Go.RowKit Go.Shelf

theorem op_moveZ {P : Program} {o : Oper} {a : Act} {w : World} {K : Act → World → Prop} {Q : Exit → Act → World → Prop} (t : Tmp) (ho : o.op = .move (.tmp t)) (h : K (a.put o.dst (a.tmps.getD t undef)) w) : o.wp P a w K Q := by
  unfold Oper.wp
  simp [execOp, ho, Act.eval, Oper.upon]
  simpa using h
theorem op_valZ {P : Program} {o : Oper} {a : Act} {w w' : World} {K : Act → World → Prop} {Q : Exit → Act → World → Prop} {v : Value} (hr : (execOp a.eval o).run P w = .ok (.value v) w') (h : K (a.put o.dst v) w') : o.wp P a w K Q := by
  unfold Oper.wp
  rw [hr]
  exact h
theorem op_skipZ {P : Program} {o : Oper} {a : Act} {w w' : World} {K : Act → World → Prop} {Q : Exit → Act → World → Prop} (hr : (execOp a.eval o).run P w = .ok .skip w') (h : K (a.put o.dst undef) w') : o.wp P a w K Q := by
  unfold Oper.wp
  rw [hr]
  exact h
theorem swapped {base : Nat} {w : World} {g cap : Nat} {l : List Du} (h : DuRow base w (.slice (some ⟨g, 0, none⟩) l.length cap) l) (i j : Nat) :
    DuRow base ((((w.setCell ⟨g, i * 2, none⟩ (.int .i64 (duAt l j).time)).setCell ⟨g, i * 2 + 1, none⟩ (.int .i64 (duAt l j).id)).setCell ⟨g, j * 2, none⟩ (.int .i64 (duAt l i).time)).setCell ⟨g, j * 2 + 1, none⟩ (.int .i64 (duAt l i).id)) (.slice (some ⟨g, 0, none⟩) (swp l i j).length cap) (swp l i j) := by
  have h1 := DuRow.put h i (duAt l j)
  have h2 := DuRow.put h1 j (duAt l i)
  unfold DuRow
  rw [swp_len]
  exact h2
/-- A due loaded, a due stored. -/
theorem duLoadAt {w : World} {g o : Nat} {x y : Int} (c0 : w.cell? ⟨g, o, none⟩ = some (.int .i64 x)) (c1 : w.cell? ⟨g, o + 1, none⟩ = some (.int .i64 y)) : (Instr.loadAt 33 (.pointer (some ⟨g, o, none⟩))).run Tryz.prog w = .ok (.agg #[.int .i64 x, .int .i64 y]) w := by
  simp [go_sem, Instr.loadAt, Instr.sureAddr, c0, c1]
theorem duStoreAt {w : World} {g o : Nat} (x y : Int) {z0 z1 : Value} (c0 : w.cell? ⟨g, o, none⟩ = some z0) (c1 : w.cell? ⟨g, o + 1, none⟩ = some z1) (f0 : w.frozen? ⟨g, o, none⟩ = false) (f1 : w.frozen? ⟨g, o + 1, none⟩ = false) : (Instr.storeAt 33 (.pointer (some ⟨g, o, none⟩)) (.agg #[.int .i64 x, .int .i64 y])).run Tryz.prog w = .ok () ((w.setCell ⟨g, o, none⟩ (.int .i64 x)).setCell ⟨g, o + 1, none⟩ (.int .i64 y)) := by
  simp [go_sem, Instr.storeAt, Instr.sureAddr, c0, c1, f0, f1]
theorem duIndexAt {w : World} {g n cap k : Nat} (hk : k < n) : (Instr.indexAt 67 (.slice (some ⟨g, 0, none⟩) n cap) (.int .i64 (k : Int))).run Tryz.prog w = .ok (.pointer (some ⟨g, k * 2, none⟩)) w := by
  simp [go_sem, Instr.indexAt, Addr.add, hk]
  exact fun h => h.symm
theorem op_indexDu {o : Oper} {a : Act} {w : World} {K : Act → World → Prop} {Q : Exit → Act → World → Prop} (x y : Tmp) (ho : o.op = .indexAddr 67 (.tmp x) (.tmp y)) {g n cap k : Nat} (hx : a.tmps.getD x undef = .slice (some ⟨g, 0, none⟩) n cap) (hy : a.tmps.getD y undef = .int .i64 (k : Int)) (hk : k < n) (h : K (a.put o.dst (.pointer (some ⟨g, k * 2, none⟩))) w) : o.wp Tryz.prog a w K Q := by
  refine op_valZ (v := .pointer (some ⟨g, k * 2, none⟩)) (w' := w) ?_ h
  simp only [execOp, ho]
  rw [Sem.run_bind, show a.eval (.tmp x) = _ from hx, show a.eval (.tmp y) = _ from hy, duIndexAt hk]
  rfl
theorem op_loadDu {o : Oper} {a : Act} {w : World} {K : Act → World → Prop} {Q : Exit → Act → World → Prop} (x : Tmp) (ho : o.op = .load 33 (.tmp x)) {g k : Nat} {d : Du} (hx : a.tmps.getD x undef = .pointer (some ⟨g, k, none⟩)) (c0 : w.cell? ⟨g, k, none⟩ = some (.int .i64 d.time)) (c1 : w.cell? ⟨g, k + 1, none⟩ = some (.int .i64 d.id)) (h : K (a.put o.dst d.val) w) : o.wp Tryz.prog a w K Q := by
  refine op_valZ (v := d.val) (w' := w) ?_ h
  simp only [execOp, ho]
  rw [Sem.run_bind, show a.eval (.tmp x) = _ from hx, duLoadAt c0 c1]
  rfl
theorem op_storeDu {o : Oper} {a : Act} {w : World} {K : Act → World → Prop} {Q : Exit → Act → World → Prop} (x y : Tmp) (ho : o.op = .store 33 (.tmp x) (.tmp y)) {g k : Nat} {d : Du} {z0 z1 : Value} (hx : a.tmps.getD x undef = .pointer (some ⟨g, k, none⟩)) (hy : a.tmps.getD y undef = d.val) (c0 : w.cell? ⟨g, k, none⟩ = some z0) (c1 : w.cell? ⟨g, k + 1, none⟩ = some z1) (f0 : w.frozen? ⟨g, k, none⟩ = false) (f1 : w.frozen? ⟨g, k + 1, none⟩ = false) (h : K (a.put o.dst undef) ((w.setCell ⟨g, k, none⟩ (.int .i64 d.time)).setCell ⟨g, k + 1, none⟩ (.int .i64 d.id))) : o.wp Tryz.prog a w K Q := by
  refine op_skipZ (w' := ((w.setCell ⟨g, k, none⟩ (.int .i64 d.time)).setCell ⟨g, k + 1, none⟩ (.int .i64 d.id))) ?_ h
  simp only [execOp, ho]
  rw [Sem.run_bind, show a.eval (.tmp x) = _ from hx, show a.eval (.tmp y) = _ from hy]
  show ((Instr.storeAt 33 (.pointer (some ⟨g, k, none⟩)) (.agg #[.int .i64 d.time, .int .i64 d.id])).run Tryz.prog w).andThen _ = _
  rw [duStoreAt d.time d.id c0 c1 f0 f1]
  rfl
/-- The first due of two that change places, put. -/
def W2 (w : World) (g : Nat) (l : List Du) (i j : Nat) : World := (w.setCell ⟨g, i * 2, none⟩ (.int .i64 (duAt l j).time)).setCell ⟨g, i * 2 + 1, none⟩ (.int .i64 (duAt l j).id)
def W4 (w : World) (g : Nat) (l : List Du) (i j : Nat) : World := ((W2 w g l i j).setCell ⟨g, j * 2, none⟩ (.int .i64 (duAt l i).time)).setCell ⟨g, j * 2 + 1, none⟩ (.int .i64 (duAt l i).id)
theorem below_set2 {n g o : Nat} {w w' : World} (b : Below n w w') (h : n ≤ g) (x y : Value) : Below n w ((w'.setCell ⟨g, o, none⟩ x).setCell ⟨g, o + 1, none⟩ y) := by
  have h1 : Below n w (w'.setCell ⟨g, o, none⟩ x) := b.setCell h x
  exact h1.setCell h y
theorem other_set2 {g o k : Nat} {w : World} (h : k ≠ g) (x y : Value) : ((w.setCell ⟨g, o, none⟩ x).setCell ⟨g, o + 1, none⟩ y).heap[k]? = w.heap[k]? := by
  rw [Below.heap_setCell _ _ _ _ h, Below.heap_setCell _ _ _ _ h]
theorem W4_below (w : World) (g : Nat) (l : List Du) (i j : Nat) : Below g w (W4 w g l i j) := by
  have h1 : Below g w (W2 w g l i j) := below_set2 (Below.refl _ _) (Nat.le_refl _) _ _
  exact below_set2 h1 (Nat.le_refl _) _ _
theorem W4_other {w : World} {g : Nat} {l : List Du} {i j k : Nat} (h : k ≠ g) : (W4 w g l i j).heap[k]? = w.heap[k]? := by
  have h1 : (W2 w g l i j).heap[k]? = w.heap[k]? := other_set2 h _ _
  exact (other_set2 h _ _).trans h1
/-- What lies while they change places. -/
def st (w : World) (g : Nat) (l : List Du) (i j : Nat) (L : Nat → Bool) : World := if L 15 = true then (W4 w g l i j).drew else if L 13 = true then (W2 w g l i j).drew else w.drew
set_option maxHeartbeats 3200000 in
set_option maxRecDepth 100000 in
theorem implSwap (g cap : Nat) (l : List Du) (i j : Nat) (base : Nat) (w : World) (hi : i < l.length) (hj : j < l.length) (h : DuRow base w (.slice (some ⟨g, 0, none⟩) l.length cap) l) :
    Calls Tryz.prog 118 #[.slice (some ⟨g, 0, none⟩) l.length cap, .int .i64 (i : Int), .int .i64 (j : Int)] w fun e w' => e = .returned (.tuple #[]) ∧ DuRow base w' (.slice (some ⟨g, 0, none⟩) (swp l i j).length cap) (swp l i j) ∧ Below g w w' ∧ ∀ k, k ≠ g → w'.heap[k]? = w.heap[k]? := by
  have Fin : Hid (DuRow base (W4 w g l i j).drew (.slice (some ⟨g, 0, none⟩) (swp l i j).length cap) (swp l i j) ∧ Below g w (W4 w g l i j).drew ∧ ∀ k, k ≠ g → (W4 w g l i j).drew.heap[k]? = w.heap[k]?) := by
    exact ⟨swapped h i j, (W4_below w g l i j).drew, fun k hk => W4_other hk⟩
  obtain ⟨c0, c1⟩ := h.at.cells hi
  obtain ⟨d0, d1⟩ := h.at.cells hj
  simp only [Nat.zero_add] at c0 c1 d0 d1
  have f0 := h.frozenAt (i * 2)
  have f1 := h.frozenAt (i * 2 + 1)
  have h2 := DuRow.put h i (duAt l j)
  have G2 : (∃ y, (W2 w g l i j).drew.cell? ⟨g, j * 2, none⟩ = some y) ∧ (∃ y, (W2 w g l i j).drew.cell? ⟨g, j * 2 + 1, none⟩ = some y) ∧ (W2 w g l i j).drew.frozen? ⟨g, j * 2, none⟩ = false ∧ (W2 w g l i j).drew.frozen? ⟨g, j * 2 + 1, none⟩ = false := by
    have hc := World.ownsRow.cellAt h2
    have hl : (ducells (l.set i (duAt l j))).length = l.length * 2 := by rw [ducells_length, List.length_set]
    exact ⟨⟨_, (hc (j * 2) (by omega)).trans (List.getElem?_eq_getElem (by omega))⟩, ⟨_, (hc (j * 2 + 1) (by omega)).trans (List.getElem?_eq_getElem (by omega))⟩, h2.frozenAt _, h2.frozenAt _⟩
  obtain ⟨n, hn⟩ : ∃ n, l.length = n := ⟨_, rfl⟩
  rw [hn] at hi hj ⊢
  generalize (swp l i j).length = m at Fin ⊢
  have HH : Hid (_ ∧ _ ∧ _ ∧ _ ∧ _ ∧ _ ∧ _) := ⟨c0, c1, d0, d1, f0, f1, G2⟩
  clear h h2 c0 c1 d0 d1 f0 f1 G2 hn
  go_enter Tryz.func118, Tryz.ntmps118
  go_upto_region 0 with fail
  refine region_lists (G := Unit) (by kernel_rfl) (by kernel_rfl) (by kernel_rfl) (fun _ => 99) (fun (L : Nat → Bool) (_ : Unit) (x : World) => x = st w g l i j L) (fun _ _ _ _ _ => True) (fun k y x u => ([fun _ _ u => u = Value.slice (some ⟨g, 0, none⟩) n cap, fun _ _ u => u = .int .i64 (i : Int), fun _ _ u => u = Value.slice (some ⟨g, 0, none⟩) n cap, fun _ _ u => u = .int .i64 (j : Int), fun _ _ u => u = Value.slice (some ⟨g, 0, none⟩) n cap, fun _ _ u => u = .int .i64 (j : Int), fun _ _ u => u = .pointer (some ⟨g, j * 2, none⟩), fun _ _ u => u = (duAt l j).val, fun _ _ u => u = Value.slice (some ⟨g, 0, none⟩) n cap, fun _ _ u => u = .int .i64 (i : Int), fun _ _ u => u = .pointer (some ⟨g, i * 2, none⟩), fun _ _ u => u = (duAt l i).val, fun _ _ u => u = .pointer (some ⟨g, i * 2, none⟩), fun _ _ _ => True, fun _ _ u => u = .pointer (some ⟨g, j * 2, none⟩), fun _ _ _ => True] : List (Unit → World → Value → Prop)).getD k (fun _ _ _ => True) y x u) ?hR () ?h0 ?step ?last
  case hR =>
    intro i' j' y y' x x' u hi1 hj1 hne hu h1 h2 hp hr
    have hj' : j' < 16 := hj1
    have hcases : j' = 0 ∨ j' = 1 ∨ j' = 2 ∨ j' = 3 ∨ j' = 4 ∨ j' = 5 ∨ j' = 6 ∨ j' = 7 ∨ j' = 8 ∨ j' = 9 ∨ j' = 10 ∨ j' = 11 ∨ j' = 12 ∨ j' = 13 ∨ j' = 14 ∨ j' = 15 := by omega
    rcases hcases with rfl | rfl | rfl | rfl | rfl | rfl | rfl | rfl | rfl | rfl | rfl | rfl | rfl | rfl | rfl | rfl <;> exact hp
  case h0 => simp [st]
  case step =>
    intro q o hq ho L a y x hLi hwt hre hkp hI hp
    obtain ⟨c0, c1, d0, d1, f0, f1, G2⟩ := HH.out
    have s0 : a.tmps.getD 0 undef = Value.slice (some ⟨g, 0, none⟩) n cap := hkp.slot 0 (by kernel_rfl)
    have s1 : a.tmps.getD 1 undef = .int .i64 (i : Int) := hkp.slot 1 (by kernel_rfl)
    have s2 : a.tmps.getD 2 undef = .int .i64 (j : Int) := hkp.slot 2 (by kernel_rfl)
    have hI' : ∀ k : Nat, k ≠ 13 → k ≠ 15 → x = st w g l i j (fun r => if r = k then true else L r) := by
      intro k n1 n2
      have e1 : (if (15 : Nat) = k then true else L 15) = L 15 := if_neg (fun e => n2 e.symm)
      have e2 : (if (13 : Nat) = k then true else L 13) = L 13 := if_neg (fun e => n1 e.symm)
      rw [hI]
      simp only [st, e1, e2]
    have hq' : q < 16 := hq
    have hcases : q = 0 ∨ q = 1 ∨ q = 2 ∨ q = 3 ∨ q = 4 ∨ q = 5 ∨ q = 6 ∨ q = 7 ∨ q = 8 ∨ q = 9 ∨ q = 10 ∨ q = 11 ∨ q = 12 ∨ q = 13 ∨ q = 14 ∨ q = 15 := by omega
    rcases hcases with rfl | rfl | rfl | rfl | rfl | rfl | rfl | rfl | rfl | rfl | rfl | rfl | rfl | rfl | rfl | rfl
    · cases ho
      refine ⟨wanted_none rfl, op_moveZ 0 rfl ?_⟩
      rw [s0]
      exact ⟨_, (), rfl, trivial, hI' 0 (by decide) (by decide), fun u hu => hu (fun h => by cases h)⟩
    · cases ho
      refine ⟨wanted_none rfl, op_moveZ 1 rfl ?_⟩
      rw [s1]
      exact ⟨_, (), rfl, trivial, hI' 1 (by decide) (by decide), fun u hu => hu (fun h => by cases h)⟩
    · cases ho
      refine ⟨wanted_none rfl, op_moveZ 0 rfl ?_⟩
      rw [s0]
      exact ⟨_, (), rfl, trivial, hI' 2 (by decide) (by decide), fun u hu => hu (fun h => by cases h)⟩
    · cases ho
      refine ⟨wanted_none rfl, op_moveZ 2 rfl ?_⟩
      rw [s2]
      exact ⟨_, (), rfl, trivial, hI' 3 (by decide) (by decide), fun u hu => hu (fun h => by cases h)⟩
    · cases ho
      refine ⟨wanted_none rfl, op_moveZ 0 rfl ?_⟩
      rw [s0]
      exact ⟨_, (), rfl, trivial, hI' 4 (by decide) (by decide), fun u hu => hu (fun h => by cases h)⟩
    · cases ho
      refine ⟨wanted_none rfl, op_moveZ 2 rfl ?_⟩
      rw [s2]
      exact ⟨_, (), rfl, trivial, hI' 5 (by decide) (by decide), fun u hu => hu (fun h => by cases h)⟩
    · cases ho
      have e4 : a.tmps.getD 10 undef = Value.slice (some ⟨g, 0, none⟩) n cap := hp 4 (of_decide_eq_true (by kernel_rfl)) (.inr (by decide))
      have e5 : a.tmps.getD 11 undef = .int .i64 (j : Int) := hp 5 (of_decide_eq_true (by kernel_rfl)) (.inr (by decide))
      exact ⟨wanted_none rfl, op_indexDu 10 11 rfl e4 e5 (by omega) ⟨_, (), rfl, trivial, hI' 6 (by decide) (by decide), fun u hu => hu (fun h => by cases h)⟩⟩
    · cases ho
      have e6 : a.tmps.getD 12 undef = .pointer (some ⟨g, j * 2, none⟩) := hp 6 (of_decide_eq_true (by kernel_rfl)) (.inr (by decide))
      have z13 : L 13 = false := hre 13 (by kernel_rfl)
      have z15 : L 15 = false := hre 15 (by kernel_rfl)
      have hx : x = w.drew := by rw [hI]; simp only [st, z13, z15, Bool.false_eq_true, if_false]
      subst hx
      exact ⟨wanted_none rfl, op_loadDu 12 rfl e6 d0 d1 ⟨_, (), rfl, trivial, (by simp [st, z13, z15]), fun u hu => hu (fun h => by cases h)⟩⟩
    · cases ho
      refine ⟨wanted_none rfl, op_moveZ 0 rfl ?_⟩
      rw [s0]
      exact ⟨_, (), rfl, trivial, hI' 8 (by decide) (by decide), fun u hu => hu (fun h => by cases h)⟩
    · cases ho
      refine ⟨wanted_none rfl, op_moveZ 1 rfl ?_⟩
      rw [s1]
      exact ⟨_, (), rfl, trivial, hI' 9 (by decide) (by decide), fun u hu => hu (fun h => by cases h)⟩
    · cases ho
      have e8 : a.tmps.getD 14 undef = Value.slice (some ⟨g, 0, none⟩) n cap := hp 8 (of_decide_eq_true (by kernel_rfl)) (.inr (by decide))
      have e9 : a.tmps.getD 15 undef = .int .i64 (i : Int) := hp 9 (of_decide_eq_true (by kernel_rfl)) (.inr (by decide))
      exact ⟨wanted_none rfl, op_indexDu 14 15 rfl e8 e9 (by omega) ⟨_, (), rfl, trivial, hI' 10 (by decide) (by decide), fun u hu => hu (fun h => by cases h)⟩⟩
    · cases ho
      have e10 : a.tmps.getD 16 undef = .pointer (some ⟨g, i * 2, none⟩) := hp 10 (of_decide_eq_true (by kernel_rfl)) (.inr (by decide))
      have z13 : L 13 = false := hre 13 (by kernel_rfl)
      have z15 : L 15 = false := hre 15 (by kernel_rfl)
      have hx : x = w.drew := by rw [hI]; simp only [st, z13, z15, Bool.false_eq_true, if_false]
      subst hx
      exact ⟨wanted_none rfl, op_loadDu 16 rfl e10 c0 c1 ⟨_, (), rfl, trivial, (by simp [st, z13, z15]), fun u hu => hu (fun h => by cases h)⟩⟩
    · cases ho
      have e0 : a.tmps.getD 6 undef = Value.slice (some ⟨g, 0, none⟩) n cap := hp 0 (of_decide_eq_true (by kernel_rfl)) (.inr (by decide))
      have e1 : a.tmps.getD 7 undef = .int .i64 (i : Int) := hp 1 (of_decide_eq_true (by kernel_rfl)) (.inr (by decide))
      exact ⟨wanted_none rfl, op_indexDu 6 7 rfl e0 e1 (by omega) ⟨_, (), rfl, trivial, hI' 12 (by decide) (by decide), fun u hu => hu (fun h => by cases h)⟩⟩
    · cases ho
      have e12 : a.tmps.getD 18 undef = .pointer (some ⟨g, i * 2, none⟩) := hp 12 (of_decide_eq_true (by kernel_rfl)) (.inr (by decide))
      have e7 : a.tmps.getD 13 undef = (duAt l j).val := hp 7 (of_decide_eq_true (by kernel_rfl)) (.inr (by decide))
      have z15 : L 15 = false := hre 15 (by kernel_rfl)
      have hx : x = w.drew := by rw [hI]; simp only [st, hLi, z15, Bool.false_eq_true, if_false]
      subst hx
      exact ⟨wanted_none rfl, op_storeDu 18 13 rfl e12 e7 c0 c1 f0 f1 ⟨undef, (), rfl, trivial, (by simp [st, z15]; rfl), fun _ _ => trivial⟩⟩
    · cases ho
      have e2 : a.tmps.getD 8 undef = Value.slice (some ⟨g, 0, none⟩) n cap := hp 2 (of_decide_eq_true (by kernel_rfl)) (.inr (by decide))
      have e3 : a.tmps.getD 9 undef = .int .i64 (j : Int) := hp 3 (of_decide_eq_true (by kernel_rfl)) (.inr (by decide))
      exact ⟨wanted_none rfl, op_indexDu 8 9 rfl e2 e3 (by omega) ⟨_, (), rfl, trivial, hI' 14 (by decide) (by decide), fun u hu => hu (fun h => by cases h)⟩⟩
    · cases ho
      have e14 : a.tmps.getD 19 undef = .pointer (some ⟨g, j * 2, none⟩) := hp 14 (of_decide_eq_true (by kernel_rfl)) (.inr (by decide))
      have e11 : a.tmps.getD 17 undef = (duAt l i).val := hp 11 (of_decide_eq_true (by kernel_rfl)) (.inr (by decide))
      have z13 : L 13 = true := hwt 13 (of_decide_eq_true (by kernel_rfl))
      have hx : x = (W2 w g l i j).drew := by rw [hI]; simp only [st, hLi, z13, Bool.false_eq_true, if_false, if_true]
      subst hx
      obtain ⟨⟨y0, q0⟩, ⟨y1, q1⟩, q2, q3⟩ := G2
      exact ⟨wanted_none rfl, op_storeDu 19 17 rfl e14 e11 q0 q1 q2 q3 ⟨undef, (), rfl, trivial, (by simp [st]; rfl), fun _ _ => trivial⟩⟩
  case last =>
    intro L a y x hall hkp hI hp
    have z : L 15 = true := hall 15 (by decide)
    have hx : x = (W4 w g l i j).drew := by rw [hI]; simp only [st, z, if_true]
    subst hx
    exact bodyPost_end (results_none rfl _ _ _) hkp.defers ⟨rfl, Fin.out⟩
end Go.Proofs.YtkocbfikcjgigaaGreat
