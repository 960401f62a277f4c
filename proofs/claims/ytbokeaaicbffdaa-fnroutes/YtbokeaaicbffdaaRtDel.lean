/-
  The walk of slices.Delete at one route of a list of the call's own. By the verifier.
-/
import Derived.Test.YtbokeaaicbffdaaRtApp
import Derived.Deep.RegionLaw
import Derived.Laws.CopyRow
import Derived.Laws.CopyOwn
namespace Go.Proofs.Ytbokeaaicbffdaa
open Go.RowKit

/-- An append where there is room, as a step of a region that draws: the row is laid anew. -/
theorem step_room {ops : Array Oper} {o : Oper} {a : Act} {w : World} {K : Act → World → Prop} {Q : Exit → Act → World → Prop} {E : Prop} (hgd : o.guard = none) (s x : Operand)
    (ho : o.op = .call { callee := .builtin .append, args := #[s, x], argTypes := #[24, 24] }) (g n cap : Nat) (cur : Array Value) (hg : w.heap[g]? = some (.cells cur 26 (0, 0)))
    (ad : Addr) (m c : Nat) (news : List Value) (hs : a.eval s = .slice (some ⟨g, 0, none⟩) n cap) (hx : a.eval x = .slice (some ad) m c) (hl : news.length = m * 3) (hnews : ∀ j u, news[j]? = some u → w.cell? (ad.add j) = some u) (h1 : ∀ u ∈ news, u.oneCell' = true)
    (hroom : n + m ≤ cap) (hfit : n * 3 + news.length ≤ cur.size)
    (W' : World) (hW' : w.setRow g (cur.toList.take (n * 3) ++ news ++ cur.toList.drop (n * 3 + news.length)).toArray = W')
    (h : K (a.put o.dst (.slice (some ⟨g, 0, none⟩) (n + m) cap)) W') :
    if Region.wanted o (yielded ops a.tmps) = true then Oper.wp Try.prog o a w K Q else E := by
  obtain ⟨i0, hi0, hz0, hz1, hz2⟩ := info_parts infoR
  have hw : Region.wanted o (yielded ops a.tmps) = true := by simp [Region.wanted, hgd]
  rw [if_pos hw]
  have hrun := run_append_room (P := Try.prog) w 24 o.type 26 i0 Try.underlying24 hi0 g n cap cur hg ad m c news (by rw [hz1]; exact hl) hnews h1 hroom (by rw [hz1]; exact hfit)
  rw [hz1] at hrun
  have hex : (execOp a.eval o).run Try.prog w = .ok (.value (.slice (some ⟨g, 0, none⟩) (n + m) cap)) (w.setRow g (cur.toList.take (n * 3) ++ news ++ cur.toList.drop (n * 3 + news.length)).toArray) := by
    simp [execOp, ho, resolve, invoke, builtin, hs, hx, hrun, Result.andThen]
  unfold Oper.wp
  rw [hex, hW']
  exact h
/-- A zero route's cells. -/
def zero3 : List Value := [.int .i64 0, .int .i64 0, .int .i64 0]
theorem run_clear1 (w : World) (ty : TypeId) (g o c : Nat) (cur : Array Value) (hg : w.heap[g]? = some (.cells cur 26 (0, 0))) (hfit : o + 3 ≤ cur.size) :
    (Builtin.clear_ #[24] ty #[.slice (some ⟨g, o, none⟩) 1 c]).run Try.prog w = .ok (.tuple #[]) (w.setRow g (cur.toList.take o ++ zero3 ++ cur.toList.drop (o + 3)).toArray) := by
  have hst := run_storeCells_at Try.prog g o 26 zero3 0 cur w hg hfit (by intro v hv; simp [zero3] at hv; subst hv; rfl)
  have e3 : zero3.length = 3 := rfl
  simp only [Nat.add_zero, e3] at hst
  have hz : (Builtin.zeroCells (Value.agg #[.int .i64 0, .int .i64 0, .int .i64 0]).cells 1).toList = zero3 := by kernel_rfl
  simp [Builtin.clear_, run_underlying Try.underlying24, Try.zeroValue26, hz, hst]

set_option maxHeartbeats 1600000 in
theorem implDelete (base g cap : Nat) (As Cs : List Rt) (x : Rt) (N D : Nat) (hN : As.length = N) (hD : Cs.length = D) (w : World) (h : Hid (RRow base w (.slice (some ⟨g, 0, none⟩) (N + 1 + D) cap) (As ++ x :: Cs))) :
    Calls Try.prog 27 #[.slice (some ⟨g, 0, none⟩) (N + 1 + D) cap, .int .i64 (N : Int), .int .i64 ((N : Int) + 1)] w fun e w' => e = .returned (.slice (some ⟨g, 0, none⟩) (N + D) cap) ∧ RRow base w' (.slice (some ⟨g, 0, none⟩) (N + D) cap) (As ++ Cs) ∧ Below base w w' := by
  obtain ⟨cur, hbg, hg, hnc, hcm, hcs, htk⟩ : ∃ cur, base ≤ g ∧ w.heap[g]? = some (.cells cur 26 (0, 0)) ∧ N + 1 + D ≤ cap ∧ cap ≤ maxLen ∧ cur.size = cap * 3 ∧ cur.toList.take ((N + 1 + D) * 3) = rcells (As ++ x :: Cs) := by
    have hl : (As ++ x :: Cs).length = N + 1 + D := by simp; omega
    have hh := h.out
    unfold RRow at hh
    rw [hl] at hh
    rcases hh.2 with ⟨e, _⟩ | ⟨g', cap', cur, e, h1, h2, h3, h4, h5, h6⟩
    · cases e
    · cases e
      exact ⟨cur, h1, h2, h3, h4, h5, h6⟩
  clear h
  have hcm' : cap ≤ 9223372036854775807 := by rw [maxLen] at hcm; omega
  have hcur : cur.toList = rcells As ++ x.cells ++ rcells Cs ++ cur.toList.drop ((N + 1 + D) * 3) := by
    have h1 := (List.take_append_drop ((N + 1 + D) * 3) cur.toList).symm
    have h2 : rcells (As ++ x :: Cs) = rcells As ++ x.cells ++ rcells Cs := by simp [rcells]
    rw [htk, h2] at h1
    exact h1
  have la : (rcells As).length = N * 3 := by rw [rcells_length, hN]
  have lc : (rcells Cs).length = D * 3 := by rw [rcells_length, hD]
  have lx : x.cells.length = 3 := rfl
  obtain ⟨Ad, hAd, hsrc⟩ : ∃ Ad : Addr, (if cap = N + 1 then some (⟨g, 0, none⟩ : Addr) else some ⟨g, (N + 1) * 3, none⟩) = some Ad ∧ Hid (∀ j u, (rcells Cs)[j]? = some u → w.cell? (Ad.add j) = some u) := by
    by_cases hck : cap = N + 1
    · refine ⟨⟨g, 0, none⟩, by simp [hck], fun j u hu => ?_⟩
      have : D = 0 := by omega
      have hj := (List.getElem?_eq_some_iff.1 hu).1
      omega
    · refine ⟨⟨g, (N + 1) * 3, none⟩, by simp [hck], fun j u hu => ?_⟩
      have hj := (List.getElem?_eq_some_iff.1 hu).1
      rw [show (⟨g, (N + 1) * 3, none⟩ : Addr).add j = ⟨g, (N + 1) * 3 + j, none⟩ by by_cases h0 : j = 0 <;> simp [Addr.add, h0]]
      have : w.cell? ⟨g, (N + 1) * 3 + j, none⟩ = cur[(N + 1) * 3 + j]? := by simp [World.cell?, hg]
      rw [this, ← Array.getElem?_toList, hcur, List.append_assoc, List.getElem?_append_right (by simp [la, lx]; omega), List.getElem?_append_left (by simp [la, lx, lc]; omega)]
      rw [show (N + 1) * 3 + j - (rcells As ++ x.cells).length = j by simp [la, lx]; omega]
      exact hu
  obtain ⟨c1, hc1⟩ : ∃ c1, c1 = (cur.toList.take (N * 3) ++ rcells Cs ++ cur.toList.drop (N * 3 + (rcells Cs).length)).toArray := ⟨_, rfl⟩
  obtain ⟨W1, hW1⟩ : ∃ W1, W1 = w.drew.setRow g c1 := ⟨_, rfl⟩
  have hg1 : W1.heap[g]? = some (.cells c1 26 (0, 0)) := by rw [hW1]; exact setRow_heap _ _ _ _ _ _ hg
  have hs1 : c1.size = cap * 3 := by rw [hc1]; simp [lc, hcs]; omega
  have hcl : ∀ ty c, (Builtin.clear_ #[24] ty #[.slice (some ⟨g, (N + D) * 3, none⟩) 1 c]).run Try.prog W1 = .ok (.tuple #[]) (W1.setRow g (c1.toList.take ((N + D) * 3) ++ zero3 ++ c1.toList.drop ((N + D) * 3 + 3)).toArray) := fun ty c => run_clear1 W1 ty g ((N + D) * 3) c c1 hg1 (by rw [hs1]; omega)
  have hfin : Hid (RRow base (W1.setRow g (c1.toList.take ((N + D) * 3) ++ zero3 ++ c1.toList.drop ((N + D) * 3 + 3)).toArray) (.slice (some ⟨g, 0, none⟩) (N + D) cap) (As ++ Cs) ∧ Below base w (W1.setRow g (c1.toList.take ((N + D) * 3) ++ zero3 ++ c1.toList.drop ((N + D) * 3 + 3)).toArray)) := by
    refine ⟨⟨by rw [rcells_length], .inr ⟨g, cap, _, by simp [hN, hD], hbg, setRow_heap _ _ _ _ _ _ hg1, by simp [hN, hD]; omega, hcm, ?_, ?_⟩⟩, ?_⟩
    · simp [zero3, hs1]; omega
    · have e1 : c1.toList.take ((N + D) * 3) = rcells As ++ rcells Cs := by
        rw [hc1]
        simp only []
        rw [hcur]
        rw [show (rcells As ++ x.cells ++ rcells Cs ++ cur.toList.drop ((N + 1 + D) * 3)).take (N * 3) = rcells As by rw [List.append_assoc, List.append_assoc, List.take_append_of_le_length (by omega), List.take_of_length_le (by omega)]]
        rw [List.append_assoc, ← List.append_assoc, List.take_append_of_le_length (by simp [la, lc]; omega), List.take_of_length_le (by simp [la, lc]; omega)]
      have e2 : (As ++ Cs).length = N + D := by simp [hN, hD]
      rw [e2, rcells_append]
      show ((c1.toList.take ((N + D) * 3) ++ zero3 ++ c1.toList.drop ((N + D) * 3 + 3)).toArray.toList).take ((N + D) * 3) = _
      rw [e1]
      simp only [List.append_assoc]
      rw [← List.append_assoc, List.take_append_of_le_length (by simp [la, lc]; omega), List.take_of_length_le (by simp [la, lc]; omega)]
    · rw [hW1]
      exact below_setRow (below_setRow (Below.refl _ _).drew hbg _) hbg _
  obtain ⟨W2, hW2⟩ : ∃ W2, W1.setRow g (c1.toList.take ((N + D) * 3) ++ zero3 ++ c1.toList.drop ((N + D) * 3 + 3)).toArray = W2 := ⟨_, rfl⟩
  rw [hW2] at hcl hfin
  clear hW2
  have Hc1 : Hid _ := hc1
  have HW1 : Hid (W1 = w.drew.setRow g c1) := hW1
  have HS : Hid (∀ j u, (rcells Cs)[j]? = some u → w.drew.cell? (Ad.add j) = some u) := hsrc
  have Hf1 : Hid (N * 3 + (rcells Cs).length ≤ cur.size) := by show _ ≤ _; rw [lc, hcs]; omega
  have Hl1 : Hid ((rcells Cs).length = D * 3) := lc
  have Hg : Hid (w.drew.heap[g]? = some (.cells cur 26 (0, 0))) := hg
  clear hc1 hW1 hsrc hg1 hs1 htk hcur la lc lx hg hcs hN hD hcm
  have h01 : (0 : Int) ≤ (N : Int) + 1 := by omega
  have h02 : (N : Int) + 1 ≤ (N : Int) + 1 + (D : Int) := by omega
  have h03 : ((N : Int) == (N : Int) + 1) = false := by rw [beq_eq_false_iff_ne]; omega
  have h04 : N ≤ cap := by omega
  go_enter Try.func27, Try.ntmps27
  go_wp2
  go_region_law (refine step_room rfl (.tmp 22) (.tmp 25) rfl g N cap cur Hg.out Ad D (cap - (N + 1)) (rcells Cs) (by first | rfl | simp [Act.eval, Act.put]) (by first | rfl | simp [Act.eval, Act.put]) Hl1.out HS.out (rcells_one Cs) (by omega) Hf1.out W1 (by rw [← Hc1.out, ← HW1.out]) ?_)
  have h05 : (N : Int) + (D : Int) ≤ (N : Int) + 1 + (D : Int) := by omega
  have h06 : ¬ cap = N + D := by omega
  have h07 : N + 1 + D - (N + D) = 1 := by omega
  go_wp2
  go_ret
  exact ⟨rfl, hfin.out.1, hfin.out.2⟩
end Go.Proofs.Ytbokeaaicbffdaa
