/-
  The walk of slices.Insert of one route into a list of the call's own. By the verifier.
-/
import Derived.Test.YtilnjmpnhadidaaRtDelD
import Derived.Test.YtilnjmpnhadidaaRtPutS
import Derived.Lib.AppendZerosOnto
import Derived.Lib.Overlaps
import Derived.Lib.JoinLaws
import Derived.Laws.Externs
namespace Go.Proofs.Ytilnjmpnhadidaa
open Go.RowKit

/-- copy at three cells a row. -/
theorem run_copy3 (w : World) (ty : TypeId) (g o dLen dCap : Nat) (a : Addr) (sLen sCap m : Nat) (cur : Array Value) (cs : List Value)
    (hg : w.heap[g]? = some (.cells cur 53 (0, 0))) (hm : Nat.min sLen dLen = m) (hn : cs.length = m * 3)
    (hsrc : ∀ j v, cs[j]? = some v → w.cell? (a.add j) = some v) (hfit : o + cs.length ≤ cur.size) (h1 : ∀ v ∈ cs, v.oneCell' = true) :
    (Builtin.copy_ #[24, 24] ty #[.slice (some ⟨g, o, none⟩) dLen dCap, .slice (some a) sLen sCap]).run Try.prog w =
      .ok (goInt m) (w.setRow g (cur.toList.take o ++ cs ++ cur.toList.drop (o + cs.length)).toArray) := by
  obtain ⟨i0, hi0, hz0, hz1, hz2⟩ := info_parts infoR
  have hl := run_loadCells_list (P := Try.prog) w a cs hsrc
  have hst := run_storeCells_at Try.prog g o 53 cs 0 cur w hg (by simpa using hfit) h1
  simp [Builtin.copy_, run_underlying Try.underlying24, Builtin.lenOf, Builtin.firstCells, sizeOf, typeInfo, hi0, hz1, hm, ← hn, hl, hst]
/-- As a step of a walk, and of a region that draws. -/
theorem list_copy {ops : Array Oper} {rest : List Oper} {o : Oper} {a : Act} {w : World} {Q : Exit → Act → World → Prop} (hg : o.guard = none) (d x : Operand)
    (hop : o.op = .call { callee := .builtin .copy, args := #[d, x], argTypes := #[24, 24] })
    (v u : Value) (hd : a.eval d = v) (hx : a.eval x = u) (v' : Value) (w' : World) (hr : (Builtin.copy_ #[24, 24] o.type #[v, u]).run Try.prog w = .ok v' w') (hK : wpList Try.prog ops Q rest (a.put o.dst v') w') :
    wpList Try.prog ops Q (o :: rest) a w := by
  refine wpList_plain hg fun _ hK' => ?_
  unfold Oper.wp
  simp [execOp, hop, resolve, invoke, builtin, hd, hx, hr, Result.andThen]
  exact hK' _ _ hK
theorem list_append {ops : Array Oper} {rest : List Oper} {o : Oper} {a : Act} {w : World} {Q : Exit → Act → World → Prop} (hg : o.guard = none) (d x : Operand)
    (hop : o.op = .call { callee := .builtin .append, args := #[d, x], argTypes := #[24, 3] })
    (v u : Value) (hd : a.eval d = v) (hx : a.eval x = u) (v' : Value) (w' : World) (hr : (Builtin.append_ #[24, 3] o.type #[v, u]).run Try.prog w = .ok v' w') (hK : wpList Try.prog ops Q rest (a.put o.dst v') w') :
    wpList Try.prog ops Q (o :: rest) a w := by
  refine wpList_plain hg fun _ hK' => ?_
  unfold Oper.wp
  simp [execOp, hop, resolve, invoke, builtin, hd, hx, hr, Result.andThen]
  exact hK' _ _ hK
theorem step_copy {ops : Array Oper} {o : Oper} {a : Act} {w : World} {K : Act → World → Prop} {Q : Exit → Act → World → Prop} {E : Prop} (hg : o.guard = none) (d x : Operand)
    (hop : o.op = .call { callee := .builtin .copy, args := #[d, x], argTypes := #[24, 24] })
    (v u : Value) (hd : a.eval d = v) (hx : a.eval x = u) (v' : Value) (w' : World) (hr : (Builtin.copy_ #[24, 24] o.type #[v, u]).run Try.prog w = .ok v' w') (hK : K (a.put o.dst v') w') :
    if Region.wanted o (yielded ops a.tmps) = true then Oper.wp Try.prog o a w K Q else E := by
  have hw : Region.wanted o (yielded ops a.tmps) = true := by simp [Region.wanted, hg]
  rw [if_pos hw]
  unfold Oper.wp
  simp [execOp, hop, resolve, invoke, builtin, hd, hx, hr, Result.andThen]
  exact hK

set_option maxHeartbeats 1600000 in
theorem implInsertEnd (base : Nat) (a : Option Addr) (cap vb : Nat) (L : List Rt) (x : Rt) (w : World) (hT : L.length ≤ 1048576) (hb : base ≤ w.heap.size) (Hr : Hid (RRow base w (.slice a L.length cap) L)) (hv : Hid (RtsAt w (some ⟨vb, 0, none⟩) [x])) :
    Calls Try.prog 61 #[.slice a L.length cap, .int .i64 (L.length : Int), .slice (some ⟨vb, 0, none⟩) 1 1] w fun e w' => (∃ v, e = .returned v ∧ RRow base w' v (L ++ [x])) ∧ Below base w w' := by
  have hcap := Hr.out.cap
  have Hc : Hid (∀ v w', RRow base w' v (L ++ [x]) → ∃ a c, v = .slice a (L.length + 1) c) := fun v w' r => by
    obtain ⟨a, c, e⟩ := r.shape
    exact ⟨a, c, by simpa using e⟩
  have Hm : Hid (L.length + [x].length ≤ 2097152) := by show _ ≤ _; simp; omega
  obtain ⟨n, hn⟩ : ∃ n, L.length = n := ⟨_, rfl⟩
  rw [hn] at Hr hT hcap Hc ⊢
  clear hn
  cases a with
  | none =>
    go_enter Try.func61, Try.ntmps61
    go_wp2_with (at_builtin; refine row_app rfl (.tmp 23) (.tmp 24) rfl base _ L (some ⟨vb, 0, none⟩) 1 1 [x] rfl rfl rfl Hr.out hv.out (by simp) Hm.out hb ?_)
    all_goals
      intro v w1 r1 b1 _ _
      obtain ⟨a1, c1, rfl⟩ := Hc.out v w1 r1
      have H1 : Hid (RRow base w1 (.slice a1 (n + 1) c1) (L ++ [x]) ∧ Below base w w1) := ⟨r1, b1⟩
      clear r1 b1
      go_wp2
      go_ret
      exact ⟨⟨_, rfl, H1.out.1⟩, H1.out.2⟩
  | some ad =>
    go_enter Try.func61, Try.ntmps61
    go_wp2_with (at_builtin; refine row_app rfl (.tmp 23) (.tmp 24) rfl base _ L (some ⟨vb, 0, none⟩) 1 1 [x] rfl rfl rfl Hr.out hv.out (by simp) Hm.out hb ?_)
    all_goals
      intro v w1 r1 b1 _ _
      obtain ⟨a1, c1, rfl⟩ := Hc.out v w1 r1
      have H1 : Hid (RRow base w1 (.slice a1 (n + 1) c1) (L ++ [x]) ∧ Below base w w1) := ⟨r1, b1⟩
      clear r1 b1
      go_wp2
      go_ret
      exact ⟨⟨_, rfl, H1.out.1⟩, H1.out.2⟩

/-- A list's cells in its block. -/
theorem row_open {base : Nat} {w : World} {g n cap : Nat} {l : List Rt} (hl : l.length = n) (h : RRow base w (.slice (some ⟨g, 0, none⟩) n cap) l) :
    ∃ cur, base ≤ g ∧ w.heap[g]? = some (.cells cur 53 (0, 0)) ∧ n ≤ cap ∧ cap ≤ maxLen ∧ cur.size = cap * 3 ∧ cur.toList.take (n * 3) = rcells l := by
  unfold RRow at h
  rw [hl] at h
  rcases h.2 with ⟨e, _⟩ | ⟨g', cap', cur, e, h1, h2, h3, h4, h5, h6⟩
  · cases e
  · cases e
    exact ⟨cur, h1, h2, h3, h4, h5, h6⟩
/-- Cells that lie in a block. -/
theorem seg_at {w : World} {g off : Nat} {cur : Array Value} {cs : List Value} (hg : w.heap[g]? = some (.cells cur 53 (0, 0))) (A B : List Value) (hA : A.length = off) (hcur : cur.toList = A ++ (cs ++ B)) :
    ∀ j v, cs[j]? = some v → w.cell? ((⟨g, off, none⟩ : Addr).add j) = some v := by
  intro j v hj
  have hlt := (List.getElem?_eq_some_iff.1 hj).1
  rw [show (⟨g, off, none⟩ : Addr).add j = ⟨g, off + j, none⟩ by by_cases h0 : j = 0 <;> simp [Addr.add, h0]]
  have : w.cell? ⟨g, off + j, none⟩ = cur[off + j]? := by simp [World.cell?, hg]
  rw [this, ← Array.getElem?_toList, hcur, List.getElem?_append_right (by omega), List.getElem?_append_left (by omega), show off + j - A.length = j by omega]
  exact hj

set_option maxHeartbeats 1600000 in
theorem implInsertRoom (base g cap vb : Nat) (As Cs : List Rt) (x : Rt) (N D : Nat) (hN : As.length = N) (hD : Cs.length = D) (hD1 : 0 < D) (w : World) (hroom : N + D + 1 ≤ cap) (hvb : vb ≠ g) (h : Hid (RRow base w (.slice (some ⟨g, 0, none⟩) (N + D) cap) (As ++ Cs))) (hv : Hid (Boxed w vb #[.int .i64 x.net, .int .i64 x.bits, .int .i64 x.hop] 53)) :
    Calls Try.prog 61 #[.slice (some ⟨g, 0, none⟩) (N + D) cap, .int .i64 (N : Int), .slice (some ⟨vb, 0, none⟩) 1 1] w fun e w' => (∃ v, e = .returned v ∧ RRow base w' v (As ++ x :: Cs)) ∧ Below base w w' := by
  obtain ⟨cur, hbg, hg, hnc, hcm, hcs, htk⟩ := row_open (by simp; omega) h.out
  clear h
  have hcm' : cap ≤ 9223372036854775807 := by rw [maxLen] at hcm; omega
  have la : (rcells As).length = N * 3 := by rw [rcells_length, hN]
  have lc : (rcells Cs).length = D * 3 := by rw [rcells_length, hD]
  have lx : x.cells.length = 3 := rfl
  obtain ⟨R, hR, hRl⟩ : ∃ R, cur.toList = rcells As ++ (rcells Cs ++ R) ∧ R.length = (cap - (N + D)) * 3 := by
    refine ⟨cur.toList.drop ((N + D) * 3), ?_, by simp [hcs]; omega⟩
    have h1 := (List.take_append_drop ((N + D) * 3) cur.toList).symm
    rw [htk, rcells_append, List.append_assoc] at h1
    exact h1
  have hsrc := seg_at (cs := rcells Cs) hg (rcells As) R la hR
  obtain ⟨c1, hc1⟩ : ∃ c1, c1 = (cur.toList.take ((N + 1) * 3) ++ rcells Cs ++ cur.toList.drop ((N + 1) * 3 + (rcells Cs).length)).toArray := ⟨_, rfl⟩
  obtain ⟨W1, hW1⟩ : ∃ W1, W1 = w.drew.setRow g c1 := ⟨_, rfl⟩
  have hg1 : W1.heap[g]? = some (.cells c1 53 (0, 0)) := by rw [hW1]; exact setRow_heap _ _ _ _ _ _ hg
  have hs1 : c1.size = cap * 3 := by rw [hc1]; simp [lc, hcs]; omega
  have hv1 : Boxed W1 vb #[.int .i64 x.net, .int .i64 x.bits, .int .i64 x.hop] 53 := by
    show W1.heap[vb]? = _
    rw [hW1, setRow_other _ _ _ _ hvb]
    exact hv.out
  have hx1 : ∀ j v, x.cells[j]? = some v → W1.cell? ((⟨vb, 0, none⟩ : Addr).add j) = some v := seg_at (cs := x.cells) hv1 [] [] rfl rfl
  have hcp1 : ∀ ty dc sc, (Builtin.copy_ #[24, 24] ty #[.slice (some ⟨g, (N + 1) * 3, none⟩) D dc, .slice (some ⟨g, N * 3, none⟩) (D + 1) sc]).run Try.prog w.drew = .ok (goInt D) W1 := fun ty dc sc => by
    rw [hW1, hc1]
    exact run_copy3 w.drew ty g ((N + 1) * 3) D dc ⟨g, N * 3, none⟩ (D + 1) sc D cur (rcells Cs) hg (by simp only [Nat.min_def]; split <;> omega) lc hsrc (by rw [lc, hcs]; omega) (rcells_one Cs)
  obtain ⟨W2, hW2⟩ : ∃ W2, W2 = W1.setRow g (c1.toList.take (N * 3) ++ x.cells ++ c1.toList.drop (N * 3 + x.cells.length)).toArray := ⟨_, rfl⟩
  have hcp2 : ∀ ty dc, (Builtin.copy_ #[24, 24] ty #[.slice (some ⟨g, N * 3, none⟩) (D + 1) dc, .slice (some ⟨vb, 0, none⟩) 1 1]).run Try.prog W1 = .ok (goInt 1) W2 := fun ty dc => by
    rw [hW2]
    exact run_copy3 W1 ty g (N * 3) (D + 1) dc ⟨vb, 0, none⟩ 1 1 1 c1 x.cells hg1 (by simp only [Nat.min_def]; split <;> omega) lx hx1 (by rw [lx, hs1]; omega) (by intro v hv; simp [Rt.cells] at hv; rcases hv with rfl | rfl | rfl <;> rfl)
  have hfin : Hid (RRow base W2 (.slice (some ⟨g, 0, none⟩) (N + D + 1) cap) (As ++ x :: Cs) ∧ Below base w W2) := by
    refine ⟨⟨by rw [rcells_length], .inr ⟨g, cap, _, by simp [hN, hD]; omega, hbg, by rw [hW2]; exact setRow_heap _ _ _ _ _ _ hg1, by simp [hN, hD]; omega, hcm, ?_, ?_⟩⟩, ?_⟩
    · simp [lx, hs1]; omega
    · have e2 : (As ++ x :: Cs).length * 3 = N * 3 + 3 + D * 3 := by simp [hN, hD]; omega
      have e3 : rcells (As ++ x :: Cs) = rcells As ++ (x.cells ++ rcells Cs) := by simp [rcells]
      rw [e2, e3]
      have t1 : c1.toList.take (N * 3) = rcells As := by
        rw [hc1]
        simp only []
        rw [List.append_assoc, List.take_append_of_le_length (by simp [hcs]; omega), List.take_take, show min (N * 3) ((N + 1) * 3) = N * 3 by omega, hR, List.take_append_of_le_length (by omega), List.take_of_length_le (by omega)]
      have t2 : (c1.toList.drop (N * 3 + 3)).take (D * 3) = rcells Cs := by
        rw [hc1]
        simp only []
        have e5 : (cur.toList.take ((N + 1) * 3)).length = N * 3 + 3 := by simp [hcs]; omega
        rw [List.append_assoc, List.drop_append_of_le_length (by omega), List.drop_of_length_le (by omega), List.nil_append, List.take_append_of_le_length (by omega), List.take_of_length_le (by omega)]
      show ((c1.toList.take (N * 3) ++ x.cells ++ c1.toList.drop (N * 3 + x.cells.length)).toArray.toList).take _ = _
      simp only []
      rw [t1, lx, List.append_assoc, List.take_append, la, show N * 3 + 3 + D * 3 - N * 3 = 3 + D * 3 by omega, List.take_of_length_le (by omega), List.take_append, lx, show 3 + D * 3 - 3 = D * 3 by omega, List.take_of_length_le (by omega), t2]
    · rw [hW2, hW1]
      exact below_setRow (below_setRow (Below.refl _ _).drew hbg _) hbg _
  have hov : ∀ lb cb, (callFunc 84 #[.slice (some ⟨vb, 0, none⟩) 1 1, .slice (some ⟨g, (N + 1) * 3, none⟩) lb cb]).run Try.prog w = .ok (.value (.bool false)) w := fun lb cb => by
    have hbv : w.heap[vb]? = some (.cells #[.int .i64 x.net, .int .i64 x.bits, .int .i64 x.hop] 53) := hv.out
    obtain ⟨i0, hi0, hz0, hz1, hz2⟩ := info_parts infoR
    rw [run_callFunc_extern Try.func84 (by kernel_rfl) (by kernel_rfl) (by kernel_rfl) (e := Extern.SlicesOverlaps.overlaps #[24, 24] #[4]) (by kernel_rfl),
      Lib.run_overlaps_apart w 24 4 53 Try.underlying24 3 (fun w => by simp [sizeOf, typeInfo, hi0, hz1]) ⟨vb, 0, none⟩ ⟨g, (N + 1) * 3, none⟩ 1 1 lb cb hvb 53 53 3 cur.size (by simp [World.shape?, hbv]) (by simp [World.shape?, hg]) (by omega) (by simp [World.frozen?, hbv]) (by simp [World.frozen?, hbv])]
    rfl
  clear hW2 hW1 hc1 hg1 hs1 hv1 hx1 hsrc hR hRl htk hcs hg la lc lx hv hcm hN hD hvb
  have h01 : (0 : Int) ≤ (N : Int) + 1 := by omega
  have h02 : (N : Int) ≤ (N : Int) + (D : Int) := by omega
  have h03 : ¬ ((N : Int) = (N : Int) + (D : Int)) := by omega
  have h04 : ¬ (cap = N) := by omega
  have h05 : ¬ (cap = N + 1) := by omega
  go_enter Try.func61, Try.ntmps61
  go_wp2_with (simp only [hov])
  have h06 : N + D + 1 - (N + 1) = D := by omega
  have h07 : N + D + 1 - N = D + 1 := by omega
  have h08 : (N : Int) + 1 ≤ (N : Int) + (D : Int) + 1 := by omega
  have h09 : (N : Int) ≤ (N : Int) + (D : Int) + 1 := by omega
  have h10 : IntKind.i64.wrap ((N : Int) + 1) = (N : Int) + 1 := by rw [IntKind.wrap_i64]; omega
  have h11 : ((N : Int) + 1).toNat = N + 1 := by omega
  go_region_law (fail)
  go_wp2_with (at_builtin; refine list_copy rfl (.tmp 80) (.tmp 81) rfl _ _ rfl rfl _ W2 (hcp2 _ _) ?_)
  go_ret
  exact ⟨⟨_, rfl, hfin.out.1⟩, hfin.out.2⟩

/-- Nought routes. -/
theorem zero_cells (n : Nat) : (Builtin.zeroCells (Value.agg #[.int .i64 0, .int .i64 0, .int .i64 0]).cells n).toList.length = n * 3 := by
  have h := size_zeroCells (Value.agg #[.int .i64 0, .int .i64 0, .int .i64 0]).cells n
  rw [Array.length_toList, h]
  rfl

set_option maxHeartbeats 1600000 in
theorem implInsertGrow (base g cap vb : Nat) (As Cs : List Rt) (x : Rt) (N D : Nat) (hN : As.length = N) (hD : Cs.length = D) (hD1 : 0 < D) (w : World) (hT : N + D ≤ 1048576) (hb : base ≤ w.heap.size) (hroom : cap < N + D + 1) (h : Hid (RRow base w (.slice (some ⟨g, 0, none⟩) (N + D) cap) (As ++ Cs))) (hv : Hid (Boxed w vb #[.int .i64 x.net, .int .i64 x.bits, .int .i64 x.hop] 53)) :
    Calls Try.prog 61 #[.slice (some ⟨g, 0, none⟩) (N + D) cap, .int .i64 (N : Int), .slice (some ⟨vb, 0, none⟩) 1 1] w fun e w' => (∃ v, e = .returned v ∧ RRow base w' v (As ++ x :: Cs)) ∧ Below base w w' := by
  obtain ⟨cur, hbg, hg, hnc, hcm, hcs, htk⟩ := row_open (by simp; omega) h.out
  clear h
  obtain rfl : cap = N + D := by omega
  have la : (rcells As).length = N * 3 := by rw [rcells_length, hN]
  have lc : (rcells Cs).length = D * 3 := by rw [rcells_length, hD]
  have lx : x.cells.length = 3 := rfl
  have hR : cur.toList = rcells As ++ (rcells Cs ++ []) := by
    have h1 := htk
    rw [List.take_of_length_le (by simp [hcs]), rcells_append] at h1
    rw [h1, List.append_nil]
  obtain ⟨i0, hi0, hz0, hz1, hz2⟩ := info_parts infoR
  obtain ⟨C, hC⟩ : ∃ C, C = grownCap w (N + (D + 1)) (N + D) 53 := ⟨_, rfl⟩
  have hC1 : N + (D + 1) ≤ C := by rw [hC]; exact grownCap_ge _ _ _ _
  have hC2 : C ≤ maxLen := by rw [hC]; exact grownCap_le_maxLen _ _ _ _ (by rw [maxLen]; omega)
  obtain ⟨Z1, hZ1⟩ : ∃ Z, Z = Builtin.zeroCells (Value.agg #[.int .i64 0, .int .i64 0, .int .i64 0]).cells (D + 1) := ⟨_, rfl⟩
  obtain ⟨Z2, hZ2⟩ : ∃ Z, Z = Builtin.zeroCells (Value.agg #[.int .i64 0, .int .i64 0, .int .i64 0]).cells (C - (N + (D + 1))) := ⟨_, rfl⟩
  have lz1 : Z1.toList.length = (D + 1) * 3 := by rw [hZ1]; exact zero_cells _
  have lz2 : Z2.toList.length = (C - (N + (D + 1))) * 3 := by rw [hZ2]; exact zero_cells _
  obtain ⟨W1, hW1⟩ : ∃ W, W = w.drew.alloc (.cells ((rcells As).toArray ++ Z1 ++ Z2) 53) := ⟨_, rfl⟩
  obtain ⟨G, hG⟩ : ∃ G, G = w.heap.size := ⟨_, rfl⟩
  have hap : ∀ ty, (Builtin.append_ #[24, 3] ty #[.slice (some ⟨g, 0, none⟩) N (N + D), .int .i64 ((D : Int) + 1)]).run Try.prog w = .ok (.slice (some ⟨G, 0, none⟩) (N + (D + 1)) C) W1 := fun ty => by
    have hold : (Builtin.firstCells i0.size N (.slice (some ⟨g, 0, none⟩) N (N + D))).run Try.prog w.drew = .ok (rcells As).toArray w.drew := by
      rw [hz1]
      exact run_firstCells_some w.drew 3 N ⟨g, 0, none⟩ N (N + D) (rcells As) la (seg_at (w := w.drew) (cs := rcells As) hg [] (rcells Cs ++ []) rfl (by rw [hR]; simp))
    have q := Lib.run_append_grow_zeros (P := Try.prog) w 24 3 ty 53 i0 _ .i64 .i64 Try.underlying24 Try.underlying3 hi0 hz0 (some ⟨g, 0, none⟩) N (N + D) (rcells As) hold (D + 1) (by omega) (by rw [hz1]; omega) (by omega) (by omega) (by rw [hz2]; omega) (by rw [hz2]; exact growslice_fits (by omega) (by omega))
    rw [show ((D : Int) + 1) = ((D + 1 : Nat) : Int) by omega, q, hW1, hC, hG, hZ1, hZ2, hC]
  obtain ⟨c1, hc1⟩ : ∃ c, c = (rcells As).toArray ++ Z1 ++ Z2 := ⟨_, rfl⟩
  have hg1 : W1.heap[G]? = some (.cells c1 53 (0, 0)) := by rw [hW1, hc1, hG]; exact Boxed.new w.drew _ _
  have hs1 : c1.size = C * 3 := by
    have e1 : c1.size = (rcells As).length + Z1.toList.length + Z2.toList.length := by rw [hc1]; simp only [Array.size_append, List.size_toArray, Array.length_toList]
    rw [e1, la, lz1, lz2]; omega
  have hc1l : c1.toList = rcells As ++ (Z1.toList ++ Z2.toList) := by rw [hc1]; simp
  have hgl : g < w.heap.size := (Array.getElem?_eq_some_iff.1 hg).1
  have hvl : vb < w.heap.size := (Array.getElem?_eq_some_iff.1 (show w.heap[vb]? = _ from hv.out)).1
  have hv1 : Boxed W1 vb #[.int .i64 x.net, .int .i64 x.bits, .int .i64 x.hop] 53 := by
    show W1.heap[vb]? = _
    rw [hW1, Below.heap_alloc _ _ _ (by exact hvl)]
    exact hv.out
  have hx1 : ∀ j v, x.cells[j]? = some v → W1.cell? ((⟨vb, 0, none⟩ : Addr).add j) = some v := seg_at (cs := x.cells) hv1 [] [] rfl rfl
  obtain ⟨c2, hc2⟩ : ∃ c, c = (c1.toList.take (N * 3) ++ x.cells ++ c1.toList.drop (N * 3 + x.cells.length)).toArray := ⟨_, rfl⟩
  obtain ⟨W2, hW2⟩ : ∃ W2, W2 = W1.setRow G c2 := ⟨_, rfl⟩
  have hcp1 : ∀ ty dc, (Builtin.copy_ #[24, 24] ty #[.slice (some ⟨G, N * 3, none⟩) (D + 1) dc, .slice (some ⟨vb, 0, none⟩) 1 1]).run Try.prog W1 = .ok (goInt 1) W2 := fun ty dc => by
    rw [hW2, hc2]
    exact run_copy3 W1 ty G (N * 3) (D + 1) dc ⟨vb, 0, none⟩ 1 1 1 c1 x.cells hg1 (by simp only [Nat.min_def]; split <;> omega) lx hx1 (by rw [lx, hs1]; omega) (by intro v hv; simp [Rt.cells] at hv; rcases hv with rfl | rfl | rfl <;> rfl)
  have hg2 : W2.heap[G]? = some (.cells c2 53 (0, 0)) := by rw [hW2]; exact setRow_heap _ _ _ _ _ _ hg1
  have hs2 : c2.size = C * 3 := by rw [hc2]; simp [lx, hs1]; omega
  have hgG : g ≠ G := by omega
  have hgW2 : W2.heap[g]? = some (.cells cur 53 (0, 0)) := by
    rw [hW2, setRow_other _ _ _ _ hgG, hW1, Below.heap_alloc _ _ _ (by exact hgl)]
    exact hg
  have hsrc := seg_at (w := W2.drew) (cs := rcells Cs) hgW2 (rcells As) [] la hR
  obtain ⟨W3, hW3⟩ : ∃ W3, W3 = W2.drew.setRow G (c2.toList.take ((N + 1) * 3) ++ rcells Cs ++ c2.toList.drop ((N + 1) * 3 + (rcells Cs).length)).toArray := ⟨_, rfl⟩
  have hcp2 : ∀ ty dc sc, (Builtin.copy_ #[24, 24] ty #[.slice (some ⟨G, (N + 1) * 3, none⟩) D dc, .slice (some ⟨g, N * 3, none⟩) D sc]).run Try.prog W2.drew = .ok (goInt D) W3 := fun ty dc sc => by
    rw [hW3]
    exact run_copy3 W2.drew ty G ((N + 1) * 3) D dc ⟨g, N * 3, none⟩ D sc D c2 (rcells Cs) hg2 (by simp only [Nat.min_def]; split <;> omega) lc hsrc (by rw [lc, hs2]; omega) (rcells_one Cs)
  have hfin : Hid (RRow base W3 (.slice (some ⟨G, 0, none⟩) (N + (D + 1)) C) (As ++ x :: Cs) ∧ Below base w W3) := by
    refine ⟨⟨by rw [rcells_length], .inr ⟨G, C, _, by simp [hN, hD], by omega, by rw [hW3]; exact setRow_heap _ _ _ _ _ _ hg2, by simp [hN, hD]; omega, hC2, ?_, ?_⟩⟩, ?_⟩
    · simp [lc, hs2]; omega
    · have e2 : (As ++ x :: Cs).length * 3 = (N + 1) * 3 + D * 3 := by simp [hN, hD]; omega
      have e3 : rcells (As ++ x :: Cs) = rcells As ++ x.cells ++ rcells Cs := by simp [rcells]
      rw [e2, e3]
      have t1 : c2.toList.take ((N + 1) * 3) = rcells As ++ x.cells := by
        rw [hc2]
        simp only []
        have t0 : c1.toList.take (N * 3) = rcells As := by rw [hc1l, List.take_append_of_le_length (by omega), List.take_of_length_le (by omega)]
        rw [t0, List.take_append_of_le_length (by simp [la, lx]; omega), List.take_of_length_le (by simp [la, lx]; omega)]
      show ((c2.toList.take ((N + 1) * 3) ++ rcells Cs ++ c2.toList.drop ((N + 1) * 3 + (rcells Cs).length)).toArray.toList).take _ = _
      simp only []
      rw [t1, List.take_append_of_le_length (by simp [la, lx, lc]; omega), List.take_of_length_le (by simp [la, lx, lc]; omega)]
    · rw [hW3, hW2, hW1]
      exact below_setRow (below_setRow ((Below.refl _ _).drew.alloc hb _) (by omega) _).drew (by omega) _
  have hCi : C ≤ 9223372036854775807 := by rw [maxLen] at hC2; omega
  clear hW3 hW2 hW1 hc1 hc2 hc1l hg1 hg2 hs1 hs2 hv1 hx1 hsrc hR htk hcs hg la lc lx hv hcm hN hD hgW2 hZ1 hZ2 lz1 lz2 hC hC2 hi0 hz0 hz1 hz2 hG hgG hgl hvl
  have h01 : (0 : Int) ≤ (N : Int) + 1 := by omega
  have h02 : (N : Int) ≤ (N : Int) + (D : Int) := by omega
  have h03 : ¬ ((N : Int) = (N : Int) + (D : Int)) := by omega
  have h04 : ¬ (N + D = N) := by omega
  have h05 : ¬ (C = N + 1) := by omega
  have h06 : ¬ (C = N) := by omega
  have h07 : N + (D + 1) - N = D + 1 := by omega
  have h08 : N + (D + 1) - (N + 1) = D := by omega
  have h09 : N + D - N = D := by omega
  have h10 : IntKind.i64.wrap ((N : Int) + 1) = (N : Int) + 1 := by rw [IntKind.wrap_i64]; omega
  have h11 : ((N : Int) + 1).toNat = N + 1 := by omega
  have h12 : (N : Int) + (D : Int) + 1 - (N : Int) = (D : Int) + 1 := by omega
  go_enter Try.func61, Try.ntmps61
  go_wp2_with (at_builtin; first | (refine list_append rfl (.tmp 34) (.tmp 39) rfl _ _ rfl rfl _ W1 (hap _) ?_) | (refine list_copy rfl (.tmp 43) (.tmp 44) rfl _ _ rfl rfl _ W2 (hcp1 _ _) ?_))
  have h13 : (N : Int) + 1 ≤ (N : Int) + ((D : Int) + 1) := by omega
  have h14 : ¬ D = 0 := by omega
  go_region_law (fail)
  go_wp2
  go_ret
  exact ⟨⟨_, rfl, hfin.out.1⟩, hfin.out.2⟩
/-- One route put at its place. -/
theorem implInsert (base : Nat) (a : Option Addr) (cap vb : Nat) (l : List Rt) (K : Nat) (x : Rt) (w : World) (hT : l.length ≤ 1048576) (hK : K ≤ l.length) (hb : base ≤ w.heap.size) (hvb : ∀ g, a = some ⟨g, 0, none⟩ → vb ≠ g) (h : Hid (RRow base w (.slice a l.length cap) l)) (hv : Hid (Boxed w vb #[.int .i64 x.net, .int .i64 x.bits, .int .i64 x.hop] 53)) :
    Calls Try.prog 61 #[.slice a l.length cap, .int .i64 (K : Int), .slice (some ⟨vb, 0, none⟩) 1 1] w fun e w' => (∃ v, e = .returned v ∧ RRow base w' v (l.take K ++ [x] ++ l.drop K)) ∧ Below base w w' := by
  by_cases hKe : K = l.length
  · subst hKe
    have e : l.take l.length ++ [x] ++ l.drop l.length = l ++ [x] := by simp
    rw [e]
    exact implInsertEnd base a cap vb l x w hT hb h (rts_of_box hv.out)
  · have hl : l.take K ++ l.drop K = l := List.take_append_drop K l
    have e : l.take K ++ [x] ++ l.drop K = l.take K ++ x :: l.drop K := by simp
    rw [e]
    have h1 : (l.take K).length = K := by rw [List.length_take]; omega
    have h2 : (l.drop K).length = l.length - K := by rw [List.length_drop]
    have h3 : l.length = K + (l.length - K) := by omega
    obtain ⟨g, rfl⟩ : ∃ g, a = some ⟨g, 0, none⟩ := by
      rcases h.out.2 with ⟨e, _⟩ | ⟨g, cap', cur, e, _⟩
      · have := (Value.slice.inj e).2.1; omega
      · exact ⟨g, (Value.slice.inj e).1⟩
    have h' : Hid (RRow base w (.slice (some ⟨g, 0, none⟩) (K + (l.length - K)) cap) (l.take K ++ l.drop K)) := by rw [hl, ← h3]; exact h
    rw [h3]
    generalize l.length - K = D at h2 h' h3
    by_cases hr : K + D + 1 ≤ cap
    · exact implInsertRoom base g cap vb (l.take K) (l.drop K) x K D h1 h2 (by omega) w hr (hvb g rfl) h' hv
    · exact implInsertGrow base g cap vb (l.take K) (l.drop K) x K D h1 h2 (by omega) w (by omega) hb (by omega) h' hv
end Go.Proofs.Ytilnjmpnhadidaa
