/-
  A due put behind a heap in a variable: the program's Push. By the verifier.
-/
import Derived.Test.YtkocbfikcjgigaaGreatM25HpDown
import Derived.Test.YtkocbfikcjgigaaGreatDuWhere
namespace Go.Proofs.YtkocbfikcjgigaaGreat
open Go.RowKit Go.Shelf

theorem hp_op_where {o : Oper} {a : Act} {w : World} {K : Act → World → Prop} {Q : Exit → Act → World → Prop} (s x : Operand)
    (ho : o.op = .call { callee := .builtin .append, args := #[s, x], argTypes := #[67, 67] })
    (base : Nat) (v : Value) (L : List Du) (r : Du) (hs : a.eval s = v) (hrow : DuRow base w v L) {n : Nat} (hx : a.eval x = .slice (some ⟨n, 0, none⟩) 1 1) (hn : Boxed w n #[.int .i64 r.time, .int .i64 r.id] 33)
    (hlen : L.length ≤ 1048576) (hb : base ≤ w.heap.size)
    (h : ∀ v' w', DuRow base w' v' (L ++ [r]) → Below base w w' → (∀ k, v.ownBlock ≠ some k → k < w.heap.size → w'.heap[k]? = w.heap[k]?) → (∀ k, v'.ownBlock = some k → v.ownBlock = some k ∨ w.heap.size ≤ k) → K (a.put o.dst v') w') :
    Oper.wp Tryz.prog o a w K Q := by
  obtain ⟨i0, hi, hz0, hz1, hz2⟩ := info_parts duInfo
  have hsrc : DusAt w (some ⟨n, 0, none⟩) [r] := by
    intro k hk
    obtain rfl : k = 0 := by simpa using hk
    refine ⟨n, 0, rfl, hn.under, hn.cell 0 rfl, hn.cell 1 rfl⟩
  have hcells : ducells [r] = r.cells := by simp [ducells]
  obtain ⟨v', w', hrun, h1, h2, _, h4⟩ := run_append_where (P := Tryz.prog) w base 67 o.type 33 i0 _ 2 16 Tryz.underlying67 hi hz0 hz1 hz2 rfl (by decide) v _ _ hrow ⟨n, 0, none⟩ 1 1 r.cells rfl
    (by rw [← hcells]; exact hsrc.src) (by rw [← hcells]; exact ducells_one [r]) (by unfold maxLen; omega) (by omega) hb
  unfold Oper.wp
  simp [execOp, ho, resolve, invoke, builtin, hs, hx, hrun, Result.andThen]
  refine h v' w' ?_ ((Below.refl base w).grown h2 hb (fun j hj => (World.ownsRow.lt hrow j hj).1)) (fun j hj hl => h2.block j hl (fun e => hj e.symm)) ?_
  · unfold DuRow
    rw [List.length_append, ducells_append, hcells]
    exact h1
  · intro k hk
    rcases h4 with h4 | h4
    · left; rw [← h4]; exact hk
    · right
      rw [h4] at hk
      cases hk
      exact Nat.le_refl _
theorem asDue (v : Value) (w : World) : (Instr.typeAssert (.iface 33 v) 20 33 false).run Tryz.prog w = .ok v w := by kernel_rfl
theorem hpBuild (x y : Int) (w : World) : (Instr.buildSlice 67 1 #[(0, .agg #[.int .i64 x, .int .i64 y])]).run Tryz.prog w = .ok (.slice (some ⟨w.heap.size, 0, none⟩) 1 1) (w.alloc (.cells #[.int .i64 x, .int .i64 y] 33)) := by
  simp [go_sem, Instr.buildSlice]
theorem op_nilZ {P : Program} {o : Oper} {a : Act} {w : World} {K : Act → World → Prop} {Q : Exit → Act → World → Prop} (t : Tmp) (ho : o.op = .nilCheck (.tmp t)) {p : Addr} (hx : a.tmps.getD t undef = .pointer (some p)) (h : K (a.put o.dst (.pointer (some p))) w) : o.wp P a w K Q := by
  refine op_valZ (v := .pointer (some p)) (w' := w) ?_ h
  simp only [execOp, ho]
  rw [show a.eval (.tmp t) = _ from hx]
  rfl
theorem op_loadHp {o : Oper} {a : Act} {w : World} {K : Act → World → Prop} {Q : Exit → Act → World → Prop} (t : Tmp) (ho : o.op = .load 67 (.tmp t)) {B : Nat} {v : Value} (hx : a.tmps.getD t undef = .pointer (some ⟨B, 0, none⟩)) (c : w.cell? ⟨B, 0, none⟩ = some v) (h : K (a.put o.dst v) w) : o.wp Tryz.prog a w K Q := by
  refine op_valZ (v := v) (w' := w) ?_ h
  simp only [execOp, ho]
  rw [Sem.run_bind, show a.eval (.tmp t) = _ from hx]
  show ((Go.loadVar 67 ⟨B, 0, none⟩).run Tryz.prog w).andThen _ = _
  rw [hpLoad c]
  rfl
theorem op_asDue {o : Oper} {a : Act} {w : World} {K : Act → World → Prop} {Q : Exit → Act → World → Prop} (t : Tmp) (ho : o.op = .typeAssert (.tmp t) 20 33 false) {v : Value} (hx : a.tmps.getD t undef = .iface 33 v) (h : K (a.put o.dst v) w) : o.wp Tryz.prog a w K Q := by
  refine op_valZ (v := v) (w' := w) ?_ h
  simp only [execOp, ho]
  rw [Sem.run_bind, show a.eval (.tmp t) = _ from hx, asDue]
  rfl
theorem op_buildHp {o : Oper} {a : Act} {w : World} {K : Act → World → Prop} {Q : Exit → Act → World → Prop} (t : Tmp) (ho : o.op = .buildSlice 67 1 #[(0, .tmp t)]) {x y : Int} (hx : a.tmps.getD t undef = .agg #[.int .i64 x, .int .i64 y]) (h : K (a.put o.dst (.slice (some ⟨w.heap.size, 0, none⟩) 1 1)) (w.alloc (.cells #[.int .i64 x, .int .i64 y] 33))) : o.wp Tryz.prog a w K Q := by
  refine op_valZ (v := .slice (some ⟨w.heap.size, 0, none⟩) 1 1) ?_ h
  simp only [execOp, ho, List.map_toArray, List.map_cons, List.map_nil]
  rw [Sem.run_bind, show a.eval (.tmp t) = _ from hx, hpBuild]
  rfl
theorem hpStoreAt {w : World} {B : Nat} {z : Value} {ad : Option Addr} (n c : Nat) (c0 : w.cell? ⟨B, 0, none⟩ = some z) (f0 : w.frozen? ⟨B, 0, none⟩ = false) : (Instr.storeAt 67 (.pointer (some ⟨B, 0, none⟩)) (.slice ad n c)).run Tryz.prog w = .ok () (w.setCell ⟨B, 0, none⟩ (.slice ad n c)) := by
  simp [go_sem, Instr.storeAt, Instr.sureAddr, c0, f0]
theorem op_storeHp {o : Oper} {a : Act} {w : World} {K : Act → World → Prop} {Q : Exit → Act → World → Prop} (t s : Tmp) (ho : o.op = .store 67 (.tmp t) (.tmp s)) {B : Nat} {z : Value} {ad : Option Addr} {n c : Nat} (hx : a.tmps.getD t undef = .pointer (some ⟨B, 0, none⟩)) (hy : a.tmps.getD s undef = .slice ad n c) (c0 : w.cell? ⟨B, 0, none⟩ = some z) (f0 : w.frozen? ⟨B, 0, none⟩ = false) (h : K (a.put o.dst undef) (w.setCell ⟨B, 0, none⟩ (.slice ad n c))) : o.wp Tryz.prog a w K Q := by
  refine op_skipZ ?_ h
  simp only [execOp, ho]
  rw [Sem.run_bind, show a.eval (.tmp t) = _ from hx, show a.eval (.tmp s) = _ from hy, hpStoreAt n c c0 f0]
  rfl
/-- What a put leaves. -/
structure HpPut (base B g : Nat) (l : List Du) (w : World) (w' : World) : Prop where
  hp : ∃ g' cap', HpV base B g' cap' l w' ∧ (g' = g ∨ w.heap.size ≤ g')
  bel : Below base w w'
  oth : ∀ k, k ≠ g → k ≠ B → k < w.heap.size → w'.heap[k]? = w.heap[k]?
set_option maxHeartbeats 3200000 in
set_option maxRecDepth 100000 in
theorem implPush (base B g cap : Nat) (l : List Du) (d : Du) (w : World) (hT : l.length ≤ 1048576) (h : HpV base B g cap l w) :
    Calls Tryz.prog 120 #[.pointer (some ⟨B, 0, none⟩), .iface 33 d.val] w fun e w' => e = .returned (.tuple #[]) ∧ HpPut base B g (l ++ [d]) w w' := by
  obtain ⟨n, hn⟩ : ∃ n, l.length = n := ⟨_, rfl⟩
  have Hn : Hid (l.length = n) := hn
  have H0 : Hid (HpV base B g cap l w) := h
  have Hs : Hid (base ≤ w.heap.size ∧ B < w.heap.size ∧ l.length ≤ 1048576) := ⟨Nat.le_trans h.lt.1 (Nat.le_of_lt h.lt.2), h.box.under, hT⟩
  clear h hn hT
  go_enter Tryz.func120, Tryz.ntmps120
  go_upto_region 0 with fail
  refine region_lists (G := Unit) (by kernel_rfl) (by kernel_rfl) (by kernel_rfl) (fun i => if i = 7 then 9 else 99) (fun (L : Nat → Bool) (_ : Unit) (x : World) => L 7 = false → x = if L 6 = true then w.drew.alloc (.cells #[.int .i64 d.time, .int .i64 d.id] 33) else w.drew) (fun i _ x _ x' => i ≠ 6 → i ≠ 7 → i ≠ 9 → x' = x) (fun k y x u => ([fun _ _ u => u = .pointer (some ⟨B, 0, none⟩), fun _ _ u => u = .pointer (some ⟨B, 0, none⟩), fun _ _ u => u = .pointer (some ⟨B, 0, none⟩), fun _ _ u => u = .slice (some ⟨g, 0, none⟩) n cap, fun _ _ u => u = .iface 33 d.val, fun _ _ u => u = d.val, fun _ _ u => u = .slice (some ⟨w.heap.size, 0, none⟩) 1 1, fun _ x u => ∃ g' cap', u = .slice (some ⟨g', 0, none⟩) (n + 1) cap' ∧ DuRow base x u (l ++ [d]) ∧ Boxed x B #[.slice (some ⟨g, 0, none⟩) n cap] 67 ∧ Below base w x ∧ (∀ k, k ≠ g → k ≠ B → k < w.heap.size → x.heap[k]? = w.heap[k]?) ∧ (g' = g ∨ w.heap.size ≤ g'), fun _ _ u => u = .pointer (some ⟨B, 0, none⟩), fun _ x _ => HpPut base B g (l ++ [d]) w x] : List (Unit → World → Value → Prop)).getD k (fun _ _ _ => True) y x u) ?hR () ?h0 ?step ?last
  case hR =>
    intro i' j' y y' x x' u hi1 hj1 hne hu h1 h2 hp hr
    have hj' : j' < 10 := hj1
    have hcases : j' = 0 ∨ j' = 1 ∨ j' = 2 ∨ j' = 3 ∨ j' = 4 ∨ j' = 5 ∨ j' = 6 ∨ j' = 7 ∨ j' = 8 ∨ j' = 9 := by omega
    rcases hcases with rfl | rfl | rfl | rfl | rfl | rfl | rfl | rfl | rfl | rfl
    case inr.inr.inr.inr.inr.inr.inr.inl =>
      have e : x' = x := hr (by rintro rfl; exact absurd h1 (by decide +kernel)) hne (fun e => hu e.symm)
      subst e
      exact hp
    case inr.inr.inr.inr.inr.inr.inr.inr.inr =>
      have e : x' = x := hr (by rintro rfl; exact absurd h1 (by decide +kernel)) (by rintro rfl; exact absurd h1 (by decide +kernel)) hne
      subst e
      exact hp
    all_goals exact hp
  case h0 => intro _; simp
  case step =>
    intro q o hq ho L a y x hLi hwt hre hkp hI hp
    have s0 : a.tmps.getD 0 undef = .pointer (some ⟨B, 0, none⟩) := hkp.slot 0 (by kernel_rfl)
    have s1 : a.tmps.getD 1 undef = .iface 33 d.val := hkp.slot 1 (by kernel_rfl)
    have hI' : ∀ k : Nat, k ≠ 6 → k ≠ 7 → (if (7 : Nat) = k then true else L 7) = false → x = if (if (6 : Nat) = k then true else L 6) = true then w.drew.alloc (.cells #[.int .i64 d.time, .int .i64 d.id] 33) else w.drew := by
      intro k n1 n2 z
      have e1 : (if (7 : Nat) = k then true else L 7) = L 7 := if_neg (fun e => n2 e.symm)
      have e2 : (if (6 : Nat) = k then true else L 6) = L 6 := if_neg (fun e => n1 e.symm)
      rw [e1] at z
      rw [e2]
      exact hI z
    have hbox : L 7 = false → Boxed x B #[.slice (some ⟨g, 0, none⟩) n cap] 67 ∧ DuRow base x (.slice (some ⟨g, 0, none⟩) n cap) l := by
      intro z
      have b0 : Boxed w B #[.slice (some ⟨g, 0, none⟩) n cap] 67 := by have := H0.out.box; rw [Hn.out] at this; exact this
      have r0 : DuRow base w (.slice (some ⟨g, 0, none⟩) n cap) l := by have := H0.out.row; rw [Hn.out] at this; exact this
      rw [hI z]
      cases L 6
      · exact ⟨b0, r0⟩
      · have bb : Below w.heap.size w (w.drew.alloc (.cells #[.int .i64 d.time, .int .i64 d.id] 33)) := (Below.refl _ _).drew.alloc (Nat.le_refl _) _
        exact ⟨b0.below b0.under bb, r0.below (fun k hk => (r0.lt k hk).2) bb⟩
    have hq' : q < 10 := hq
    have hcases : q = 0 ∨ q = 1 ∨ q = 2 ∨ q = 3 ∨ q = 4 ∨ q = 5 ∨ q = 6 ∨ q = 7 ∨ q = 8 ∨ q = 9 := by omega
    rcases hcases with rfl | rfl | rfl | rfl | rfl | rfl | rfl | rfl | rfl | rfl
    · cases ho
      refine ⟨wanted_none rfl, op_moveZ 0 rfl ?_⟩
      rw [s0]
      exact ⟨_, (), rfl, fun _ _ _ => rfl, hI' 0 (by decide) (by decide), fun u hu => hu (fun h => by cases h)⟩
    · cases ho
      refine ⟨wanted_none rfl, op_moveZ 0 rfl ?_⟩
      rw [s0]
      exact ⟨_, (), rfl, fun _ _ _ => rfl, hI' 1 (by decide) (by decide), fun u hu => hu (fun h => by cases h)⟩
    · cases ho
      have e1 : a.tmps.getD 5 undef = .pointer (some ⟨B, 0, none⟩) := hp 1 (of_decide_eq_true (by kernel_rfl)) (.inr (by decide))
      exact ⟨wanted_none rfl, op_nilZ 5 rfl e1 ⟨_, (), rfl, fun _ _ _ => rfl, hI' 2 (by decide) (by decide), fun u hu => hu (fun h => by cases h)⟩⟩
    · cases ho
      have e1 : a.tmps.getD 6 undef = .pointer (some ⟨B, 0, none⟩) := hp 2 (of_decide_eq_true (by kernel_rfl)) (.inr (by decide))
      have z7 : L 7 = false := hre 7 (by kernel_rfl)
      exact ⟨wanted_none rfl, op_loadHp 6 rfl e1 ((hbox z7).1.cell 0 rfl) ⟨_, (), rfl, fun _ _ _ => rfl, hI' 3 (by decide) (by decide), fun u hu => hu (fun h => by cases h)⟩⟩
    · cases ho
      refine ⟨wanted_none rfl, op_moveZ 1 rfl ?_⟩
      rw [s1]
      exact ⟨_, (), rfl, fun _ _ _ => rfl, hI' 4 (by decide) (by decide), fun u hu => hu (fun h => by cases h)⟩
    · cases ho
      have e1 : a.tmps.getD 8 undef = .iface 33 d.val := hp 4 (of_decide_eq_true (by kernel_rfl)) (.inr (by decide))
      exact ⟨wanted_none rfl, op_asDue 8 rfl e1 ⟨_, (), rfl, fun _ _ _ => rfl, hI' 5 (by decide) (by decide), fun u hu => hu (fun h => by cases h)⟩⟩
    · cases ho
      have e1 : a.tmps.getD 9 undef = d.val := hp 5 (of_decide_eq_true (by kernel_rfl)) (.inr (by decide))
      have z7 : L 7 = false := hre 7 (by kernel_rfl)
      have hx : x = w.drew := by rw [hI z7, hLi]; rfl
      subst hx
      exact ⟨wanted_none rfl, op_buildHp 9 rfl e1 ⟨_, (), rfl, fun h => absurd rfl h, (fun _ => by simp), fun u hu => hu (fun h => by cases h)⟩⟩
    · cases ho
      have e3 : a.tmps.getD 7 undef = .slice (some ⟨g, 0, none⟩) n cap := hp 3 (of_decide_eq_true (by kernel_rfl)) (.inr (by decide))
      have e6 : a.tmps.getD 10 undef = .slice (some ⟨w.heap.size, 0, none⟩) 1 1 := hp 6 (of_decide_eq_true (by kernel_rfl)) (.inr (by decide))
      have z6 : L 6 = true := hwt 6 (of_decide_eq_true (by kernel_rfl))
      have hx : x = w.drew.alloc (.cells #[.int .i64 d.time, .int .i64 d.id] 33) := by rw [hI hLi, z6]; rfl
      obtain ⟨b0, r0⟩ := hbox hLi
      have bb : Below w.heap.size w x := by rw [hx]; exact (Below.refl _ _).drew.alloc (Nat.le_refl _) _
      have hn0 : Boxed x w.heap.size #[.int .i64 d.time, .int .i64 d.id] 33 := by rw [hx]; exact Boxed.new w.drew _ _
      refine ⟨wanted_none rfl, hp_op_where (.tmp 7) (.tmp 10) rfl base _ l d e3 r0 e6 hn0 Hs.out.2.2 (Nat.le_trans Hs.out.1 bb.size) ?_⟩
      intro v' w2 q1 q2 q3 q4
      have hBg := H0.out.apart
      obtain ⟨g', cap', ev⟩ : ∃ g' cap', v' = .slice (some ⟨g', 0, none⟩) (n + 1) cap' := by
        rcases q1.2 with ⟨_, e0⟩ | ⟨g', cap', cur, e, _⟩
        · rw [List.length_append] at e0; simp at e0
        · exact ⟨g', cap', by rw [e, List.length_append, Hn.out]; rfl⟩
      subst ev
      refine ⟨_, (), rfl, fun _ h => absurd rfl h, (fun z => by simp at z), fun u hu => ?_⟩
      have eu := hu (fun h => by cases h)
      subst eu
      refine ⟨g', cap', rfl, q1, ?_, ?_, ?_, ?_⟩
      · unfold Boxed
        rw [q3 B (fun e => by cases e; exact hBg rfl) b0.under]
        exact b0
      · exact (bb.mono Hs.out.1).trans q2
      · intro k k1 k2 k3
        rw [q3 k (fun e => by cases e; exact k1 rfl) (Nat.lt_of_lt_of_le k3 bb.size)]
        exact bb.block k k3
      · rcases q4 g' rfl with e | e
        · left; cases e; rfl
        · right; exact Nat.le_trans bb.size e
    · cases ho
      have e1 : a.tmps.getD 4 undef = .pointer (some ⟨B, 0, none⟩) := hp 0 (of_decide_eq_true (by kernel_rfl)) (.inr (by decide))
      exact ⟨wanted_none rfl, op_nilZ 4 rfl e1 ⟨_, (), rfl, fun _ _ _ => rfl, hI' 8 (by decide) (by decide), fun u hu => hu (fun h => by cases h)⟩⟩
    · cases ho
      have e8 : a.tmps.getD 12 undef = .pointer (some ⟨B, 0, none⟩) := hp 8 (of_decide_eq_true (by kernel_rfl)) (.inr (by decide))
      obtain ⟨g', cap', e7, p1, p2, p3, p4, p5⟩ : ∃ g' cap', a.tmps.getD 11 undef = .slice (some ⟨g', 0, none⟩) (n + 1) cap' ∧ DuRow base x (a.tmps.getD 11 undef) (l ++ [d]) ∧ Boxed x B #[.slice (some ⟨g, 0, none⟩) n cap] 67 ∧ Below base w x ∧ (∀ k, k ≠ g → k ≠ B → k < w.heap.size → x.heap[k]? = w.heap[k]?) ∧ (g' = g ∨ w.heap.size ≤ g') := hp 7 (of_decide_eq_true (by kernel_rfl)) (.inl rfl)
      rw [e7] at p1
      have z7 : L 7 = true := hwt 7 (of_decide_eq_true (by kernel_rfl))
      have hgB : g' ≠ B := by
        intro e
        subst e
        rcases p1.2 with ⟨e, _⟩ | ⟨g2, cap2, cur, e, _, qq, _⟩
        · cases e
        · obtain rfl : g' = g2 := by simpa using (Value.slice.inj e).1
          unfold Boxed at p2
          rw [p2] at qq
          simp only [Option.some.injEq, Obj.cells.injEq] at qq
          exact absurd qq.2.1 (by decide)
      refine ⟨wanted_none rfl, op_storeHp 12 11 rfl e8 e7 (p2.cell 0 rfl) (p2.ice 0) ⟨undef, (), rfl, fun _ _ h => absurd rfl h, (fun z => by simp [z7] at z), fun _ _ => ⟨⟨g', cap', ⟨?_, ?_, H0.out.lo⟩, p5⟩, p3.setCell H0.out.lo _, ?_⟩⟩⟩
      · have := p2.put 0 (.slice (some ⟨g', 0, none⟩) (n + 1) cap')
        rw [List.length_append, Hn.out]
        exact this
      · rw [List.length_append, Hn.out]
        exact p1.carry fun k hk _ => Below.heap_setCell _ _ _ _ (fun e => by cases hk; exact hgB e)
      · intro k k1 k2 k3
        rw [Below.heap_setCell _ _ _ _ k2]
        exact p4 k k1 k2 k3
  case last =>
    intro L a y x hall hkp hI hp
    have X : HpPut base B g (l ++ [d]) w x := hp 9 (by decide) (by decide)
    exact bodyPost_end (results_none rfl _ _ _) hkp.defers ⟨rfl, X⟩
end Go.Proofs.YtkocbfikcjgigaaGreat
