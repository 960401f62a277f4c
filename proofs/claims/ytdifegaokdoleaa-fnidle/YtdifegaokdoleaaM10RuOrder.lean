import Derived.Test.YtdifegaokdoleaaRegInv
import Derived.Handy
import Derived.Test.YtdifegaokdoleaaRuMat
import Derived.Test.YtdifegaokdoleaaRuClass
/-
  The walks of cmp.Compare and cmp.Or. By the verifier.
-/
namespace Go.Proofs.Ytdifegaokdoleaa
open Go.RowKit

/-- -1, 0 or 1. -/
def cmpV (a b : Int) : Int := if a < b then -1 else if b < a then 1 else 0
theorem implCompare (a b : Int) (w : World) :
    Calls Try.prog 73 #[.int .i64 a, .int .i64 b] w fun e w' => e = .returned (.int .i64 (cmpV a b)) ∧ w' = w := by
  unfold cmpV
  by_cases h : a < b
  · rw [if_pos h]
    go_enter Try.func73, Try.ntmps73
    go_wp2_with (go_at_call 82; go_in)
    go_ret
    exact ⟨rfl, rfl⟩
  · rw [if_neg h]
    by_cases h2 : b < a
    · rw [if_pos h2]
      go_enter Try.func73, Try.ntmps73
      go_wp2_with (go_at_call 82; go_in)
      go_ret
      exact ⟨rfl, rfl⟩
    · rw [if_neg h2]
      go_enter Try.func73, Try.ntmps73
      go_wp2_with (go_at_call 82; go_in)
      go_ret
      exact ⟨rfl, rfl⟩

theorem implOr (x y : Int) (w : World) (B : Nat) (c0 : w.cell? ⟨B, 0, none⟩ = some (.int .i64 x)) (c1 : w.cell? ⟨B, 1, none⟩ = some (.int .i64 y)) :
    Calls Try.prog 72 #[.slice (some ⟨B, 0, none⟩) 2 2] w fun e w' => e = .returned (.int .i64 (if x = 0 then y else x)) ∧ w' = w := by
  by_cases hx : x = 0
  · rw [if_pos hx]
    subst hx
    by_cases hy : y = 0
    · subst hy
      go_enter Try.func72, Try.ntmps72
      go_wp2
      go_rounds 3
      all_goals (go_ret; exact ⟨rfl, rfl⟩)
    · go_enter Try.func72, Try.ntmps72
      go_wp2
      go_rounds 2
      all_goals (go_ret; exact ⟨rfl, rfl⟩)
  · rw [if_neg hx]
    go_enter Try.func72, Try.ntmps72
    go_wp2
    go_rounds 1
    all_goals (go_ret; exact ⟨rfl, rfl⟩)

theorem op_call {P : Program} {o : Oper} {a : Act} {w : World} {K : Act → World → Prop} {Q : Exit → Act → World → Prop} {f : FuncId} {args : Array Value} (hrun : (execOp a.eval o).run P w = .ok (.enter f args) w) {v : Value}
    (hc : Calls P f args w fun e w' => e = .returned v ∧ w' = w) (h : K (a.put o.dst v) w) : o.wp P a w K Q := by
  unfold Oper.wp
  rw [hrun, Oper.upon_enter]
  refine hc.mono fun e w' hh => ?_
  obtain ⟨rfl, rfl⟩ := hh
  exact h
end Go.Proofs.Ytdifegaokdoleaa

/-
  The walk of the order of rules, the program's own. By the verifier.
-/
namespace Go.Proofs.Ytdifegaokdoleaa
open Go.RowKit

theorem ru_cell_below {w w' : World} {n : Nat} (h : Below n w w') {p : Addr} (hp : p.block < n) {v : Value} (c : w.cell? p = some v) : w'.cell? p = some v := by
  rw [h.cell hp]; exact c
/-- Less than nought where the one goes ahead. -/
def ruOrdV (a b : Ru) : Int := if cmpV b.prio a.prio = 0 then cmpV a.id b.id else cmpV b.prio a.prio
theorem ruOrd_ahead (a b : Ru) : decide (ruOrdV a b < 0) = a.ahead b := by
  unfold ruOrdV Ru.ahead cmpV
  rw [decide_eq_decide]
  (repeat' split) <;> omega

/-- What is known of each operation's value. -/
def ruOrdPr (B : Nat) (n1 n2 b1 b2 x y z : Int) : Nat → World → Value → Prop := fun i w v =>
  if i = 0 then v = .pointer (some ⟨B + 1, 1, none⟩) else if i = 1 then v = .int .i64 n1 else if i = 2 then v = .pointer (some ⟨B, 1, none⟩) else if i = 3 then v = .int .i64 n2 else if i = 4 then v = .int .i64 x
  else if i = 5 then v = .pointer (some ⟨B, 0, none⟩) else if i = 6 then v = .int .i64 b1 else if i = 7 then v = .pointer (some ⟨B + 1, 0, none⟩) else if i = 8 then v = .int .i64 b2 else if i = 9 then v = .int .i64 y
  else if i = 10 then ∃ b, v = .slice (some ⟨b, 0, none⟩) 2 2 ∧ b < w.heap.size ∧ w.cell? ⟨b, 0, none⟩ = some (.int .i64 x) ∧ w.cell? ⟨b, 1, none⟩ = some (.int .i64 y)
  else v = .int .i64 z
theorem ruOrdPr_keep {B : Nat} {n1 n2 b1 b2 x y z : Int} (i : Nat) (w w' : World) (v : Value) (h : ruOrdPr B n1 n2 b1 b2 x y z i w v) (k : Below w.heap.size w w') : ruOrdPr B n1 n2 b1 b2 x y z i w' v := by
  unfold ruOrdPr at *
  by_cases h10 : i = 10
  · subst h10
    simp only [Nat.reduceEqDiff, if_false, if_true] at h ⊢
    obtain ⟨b, e, hb, c0, c1⟩ := h
    exact ⟨b, e, Nat.lt_of_lt_of_le hb k.size, by rw [k.cell (p := ⟨b, 0, none⟩) hb]; exact c0, by rw [k.cell (p := ⟨b, 1, none⟩) hb]; exact c1⟩
  · simp only [h10, if_false] at h ⊢
    exact h

set_option maxHeartbeats 2000000 in
set_option maxRecDepth 100000 in
theorem implRuOrder (a b : Ru) (w : World) :
    Calls Try.prog 54 #[a.val, b.val] w fun e w' => e = .returned (.int .i64 (ruOrdV a b)) ∧ Below w.heap.size w w' := by
  unfold ruOrdV Ru.val
  obtain ⟨ai, ap, asn, asb, adn, adb, apr, alo, ahi, acl⟩ := a
  obtain ⟨bi, bp, bsn, bsb, bdn, bdb, bpr, blo, bhi, bcl⟩ := b
  simp only []
  have C := fun w => implCompare bp ap w
  have D := fun w => implCompare ai bi w
  have O := fun w b c0 c1 => implOr (cmpV bp ap) (cmpV ai bi) w b c0 c1
  generalize cmpV bp ap = x at C O ⊢
  generalize cmpV ai bi = y at D O ⊢
  generalize (if x = 0 then y else x) = z at O ⊢
  go_enter Try.func54, Try.ntmps54
  go_wp2_with fail
  rename_i Q1 K1 hK1
  obtain ⟨W, hW⟩ : ∃ W, W = ((w.alloc (.cells #[.int .i64 ai, .int .i64 ap, .int .i64 asn, .int .i64 asb, .int .i64 adn, .int .i64 adb, .int .i64 apr, .int .i64 alo, .int .i64 ahi, .int .i64 acl] 32)).alloc (.cells #[.int .i64 bi, .int .i64 bp, .int .i64 bsn, .int .i64 bsb, .int .i64 bdn, .int .i64 bdb, .int .i64 bpr, .int .i64 blo, .int .i64 bhi, .int .i64 bcl] 32)) := ⟨_, rfl⟩
  have cA0 : W.cell? ⟨w.heap.size, 0, none⟩ = some (.int .i64 ai) := by rw [hW]; simp
  have cA1 : W.cell? ⟨w.heap.size, 1, none⟩ = some (.int .i64 ap) := by rw [hW]; simp
  have cB0 : W.cell? ⟨w.heap.size + 1, 0, none⟩ = some (.int .i64 bi) := by rw [hW]; simp
  have cB1 : W.cell? ⟨w.heap.size + 1, 1, none⟩ = some (.int .i64 bp) := by rw [hW]; simp
  have hS : w.heap.size + 2 = W.heap.size := by rw [hW]; simp
  have hBW : Below w.heap.size w W := by rw [hW]; exact bel_alloc ((Below.refl _ _).alloc (Nat.le_refl _) _) (Nat.le_refl _) _
  rw [← hW]
  clear hW
  refine region_draws (by kernel_rfl) (by kernel_rfl) (by kernel_rfl) (by kernel_rfl) (fun w' => Below W.heap.size W w') (fun x y => Below x.heap.size x y) (ruOrdPr w.heap.size bp ap ai bi x y z) ruOrdPr_keep ?h0 ?step ?last
  case h0 => exact (Below.refl _ _).drew
  case step =>
    intro i o hi ho a w2 hk hI hp
    have t2 : a.tmps.getD 2 undef = .pointer (some ⟨w.heap.size, 0, none⟩) := hk.slot 2 (by kernel_rfl)
    have t3 : a.tmps.getD 3 undef = .pointer (some ⟨w.heap.size + 1, 0, none⟩) := hk.slot 3 (by kernel_rfl)
    have t2' : a.tmps[2]?.getD undef = .pointer (some ⟨w.heap.size, 0, none⟩) := by simpa using t2
    have t3' : a.tmps[3]?.getD undef = .pointer (some ⟨w.heap.size + 1, 0, none⟩) := by simpa using t3
    have dA0 := ru_cell_below hI (show (⟨w.heap.size, 0, none⟩ : Addr).block < _ by show w.heap.size < _; omega) cA0
    have dA1 := ru_cell_below hI (show (⟨w.heap.size, 1, none⟩ : Addr).block < _ by show w.heap.size < _; omega) cA1
    have dB0 := ru_cell_below hI (show (⟨w.heap.size + 1, 0, none⟩ : Addr).block < _ by show w.heap.size + 1 < _; omega) cB0
    have dB1 := ru_cell_below hI (show (⟨w.heap.size + 1, 1, none⟩ : Addr).block < _ by show w.heap.size + 1 < _; omega) cB1
    have hcases : i = 0 ∨ i = 1 ∨ i = 2 ∨ i = 3 ∨ i = 4 ∨ i = 5 ∨ i = 6 ∨ i = 7 ∨ i = 8 ∨ i = 9 ∨ i = 10 ∨ i = 11 := by
      have : i + 1 < 13 := hi
      omega
    rcases hcases with rfl | rfl | rfl | rfl | rfl | rfl | rfl | rfl | rfl | rfl | rfl | rfl
    · cases ho
      refine ⟨rfl, ?_⟩
      unfold Oper.wp
      simp [go_sem, t3']
      exact ⟨_, rfl, Below.refl _ _, hI, rfl⟩
    · cases ho
      have e : a.tmps[5]?.getD undef = .pointer (some ⟨w.heap.size + 1, 1, none⟩) := by simpa [ruOrdPr] using hp ⟨0, .data⟩ 5 (by simp) rfl rfl
      refine ⟨rfl, ?_⟩
      unfold Oper.wp
      simp [go_sem, e, dB1]
      exact ⟨_, rfl, Below.refl _ _, hI, rfl⟩
    · cases ho
      refine ⟨rfl, ?_⟩
      unfold Oper.wp
      simp [go_sem, t2']
      exact ⟨_, rfl, Below.refl _ _, hI, rfl⟩
    · cases ho
      have e : a.tmps[7]?.getD undef = .pointer (some ⟨w.heap.size, 1, none⟩) := by simpa [ruOrdPr] using hp ⟨2, .data⟩ 7 (by simp) rfl rfl
      refine ⟨rfl, ?_⟩
      unfold Oper.wp
      simp [go_sem, e, dA1]
      exact ⟨_, rfl, Below.refl _ _, hI, rfl⟩
    · cases ho
      have e1 : a.tmps[6]?.getD undef = .int .i64 bp := by simpa [ruOrdPr] using hp ⟨1, .data⟩ 6 (by simp) rfl rfl
      have e2 : a.tmps[8]?.getD undef = .int .i64 ap := by simpa [ruOrdPr] using hp ⟨3, .data⟩ 8 (by simp) rfl rfl
      exact ⟨rfl, op_call (by simp [execOp, resolve, Deferred.ofValue, invoke, Act.eval, e1, e2]) (C _) ⟨_, rfl, Below.refl _ _, hI, rfl⟩⟩
    · cases ho
      refine ⟨rfl, ?_⟩
      unfold Oper.wp
      simp [go_sem, t2']
      exact ⟨_, rfl, Below.refl _ _, hI, rfl⟩
    · cases ho
      have e : a.tmps[10]?.getD undef = .pointer (some ⟨w.heap.size, 0, none⟩) := by simpa [ruOrdPr] using hp ⟨5, .data⟩ 10 (by simp) rfl rfl
      refine ⟨rfl, ?_⟩
      unfold Oper.wp
      simp [go_sem, e, dA0]
      exact ⟨_, rfl, Below.refl _ _, hI, rfl⟩
    · cases ho
      refine ⟨rfl, ?_⟩
      unfold Oper.wp
      simp [go_sem, t3']
      exact ⟨_, rfl, Below.refl _ _, hI, rfl⟩
    · cases ho
      have e : a.tmps[12]?.getD undef = .pointer (some ⟨w.heap.size + 1, 0, none⟩) := by simpa [ruOrdPr] using hp ⟨7, .data⟩ 12 (by simp) rfl rfl
      refine ⟨rfl, ?_⟩
      unfold Oper.wp
      simp [go_sem, e, dB0]
      exact ⟨_, rfl, Below.refl _ _, hI, rfl⟩
    · cases ho
      have e1 : a.tmps[11]?.getD undef = .int .i64 ai := by simpa [ruOrdPr] using hp ⟨6, .data⟩ 11 (by simp) rfl rfl
      have e2 : a.tmps[13]?.getD undef = .int .i64 bi := by simpa [ruOrdPr] using hp ⟨8, .data⟩ 13 (by simp) rfl rfl
      exact ⟨rfl, op_call (by simp [execOp, resolve, Deferred.ofValue, invoke, Act.eval, e1, e2]) (D _) ⟨_, rfl, Below.refl _ _, hI, rfl⟩⟩
    · cases ho
      have e1 : a.tmps[9]?.getD undef = .int .i64 x := by simpa [ruOrdPr] using hp ⟨4, .data⟩ 9 (by simp) rfl rfl
      have e2 : a.tmps[14]?.getD undef = .int .i64 y := by simpa [ruOrdPr] using hp ⟨9, .data⟩ 14 (by simp) rfl rfl
      refine ⟨rfl, ?_⟩
      unfold Oper.wp
      simp [go_sem, e1, e2]
      exact ⟨_, rfl, (Below.refl _ _).alloc (Nat.le_refl _) _, hI.alloc hI.size _, w2.heap.size, rfl, by simp, by simp, by simp⟩
    · cases ho
      obtain ⟨b, e, hb, c0, c1⟩ := hp ⟨10, .data⟩ 15 (by simp) rfl rfl
      have e' : a.tmps[15]?.getD undef = .slice (some ⟨b, 0, none⟩) 2 2 := by simpa using e
      exact ⟨rfl, op_call (by simp [execOp, resolve, Deferred.ofValue, invoke, Act.eval, e']) (O _ _ c0 c1) ⟨_, rfl, Below.refl _ _, hI, rfl⟩⟩
  case last =>
    intro o ho a w2 hk hI hp
    cases ho
    have e : a.tmps[16]?.getD undef = .int .i64 z := by simpa [ruOrdPr] using hp 11 16 (by decide) rfl
    refine ⟨rfl, ?_⟩
    unfold Oper.wp
    simp [go_sem, e]
    refine hK1 _ _ ?_
    clear hp
    go_wp2
    have hsz : a.tmps.size = 17 := hk.size
    have hv : (a.tmps.setIfInBounds 4 (.int .i64 z)).getD 4 undef = .int .i64 z := by
      rw [Array.getD_eq_getD_getElem?, Array.getElem?_setIfInBounds, if_pos rfl, if_pos (by omega)]
      rfl
    refine bodyPost_ret (results_tmp rfl _ _ _) hk.defers ⟨?_, hBW.trans (hI.mono (by omega))⟩
    show Ending.returned ((a.tmps.setIfInBounds 4 (.int .i64 z)).getD 4 undef) = _
    rw [hv]
end Go.Proofs.Ytdifegaokdoleaa
