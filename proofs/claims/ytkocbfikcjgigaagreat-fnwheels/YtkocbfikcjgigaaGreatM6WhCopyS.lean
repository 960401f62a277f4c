import Derived.Laws.Rows
import Derived.Laws.Tables
import Derived.WalkKit
import Derived.RegionTactic
import Derived.Deep.RegionLaw
import Derived.Deep.DeepCutAuto
import Derived.Test.YtkocbfikcjgigaaGreatWhSpec
import Derived.Test.YtkocbfikcjgigaaGreatM4DzGrow
import Derived.Laws.ResultCell
import Derived.Laws.CopyOwn
/-
  Steps of a region that draws its order: a call by its contract; a struct loaded or stored whole. Results: a struct's variable and a slot. By the verifier.
-/
namespace Go.Proofs.YtkocbfikcjgigaaGreat
open Go.RowKit

theorem stepCall {P : Program} {ops : Array Oper} {o : Oper} {a : Act} {w : World} {K : Act → World → Prop} {Q : Exit → Act → World → Prop} {E : Prop}
    (hg : o.guard = none) (f : FuncId) {az : Array Operand} {ts : Array TypeId} (_ho : o.op = .call { callee := .value (.func f), args := az, argTypes := ts }) (args : Array Value) (hrun : (execOp a.eval o).run P w = .ok (.enter f args) w) {post : Ending → World → Prop} (hc : Calls P f args w post)
    (h : ∀ e w', post e w' → ∃ v, e = .returned v ∧ K (a.put o.dst v) w') :
    if Region.wanted o (yielded ops a.tmps) = true then Oper.wp P o a w K Q else E := by
  have hw : Region.wanted o (yielded ops a.tmps) = true := by simp [Region.wanted, hg]
  rw [if_pos hw]
  unfold Oper.wp
  rw [hrun, Oper.upon_enter]
  refine hc.mono fun e w'' hh => ?_
  obtain ⟨v, rfl, hk⟩ := h e w'' hh
  exact hk
/-- A struct loaded whole, as a step of a region that draws. -/
theorem step_load_row {P : Program} {ops : Array Oper} {o : Oper} {a : Act} {w : World} {K : Act → World → Prop} {Q : Exit → Act → World → Prop} {E : Prop} (hgd : o.guard = none) (ty : TypeId) (x : Operand) (ho : o.op = .load ty x)
    (g : Nat) (hx : a.eval x = .pointer (some ⟨g, 0, none⟩)) (t : TypeId) (cs : Array Value) (fr : Nat × Nat) (d : TypeDesc) (hg : w.heap[g]? = some (.cells cs t fr))
    (hu : P.underlying ty = some d) (hd : (match d with | .struct _ | .array _ _ => true | _ => false) = true) (hi : (P.info? ty).map (·.size) = some cs.size)
    (h : K (a.put o.dst (.agg cs)) w) : if Region.wanted o (yielded ops a.tmps) = true then Oper.wp P o a w K Q else E := by
  rw [if_pos (by simp [Region.wanted, hgd])]
  exact wp_load_row ty x ho g hx t cs fr d hg hu hd hi h
/-- A struct stored whole, as a step of a region that draws. -/
theorem step_store_row {P : Program} {ops : Array Oper} {o : Oper} {a : Act} {w : World} {K : Act → World → Prop} {Q : Exit → Act → World → Prop} {E : Prop} (hgd : o.guard = none) (ty : TypeId) (x y : Operand) (ho : o.op = .store ty x y)
    (g : Nat) (cells : Array Value) (hx : a.eval x = .pointer (some ⟨g, 0, none⟩)) (hy : a.eval y = .agg cells)
    (t : TypeId) (old : Array Value) (hg : w.heap[g]? = some (.cells old t (0, 0))) (hi : (P.info? ty).map (·.size) = some cells.size)
    (hold : old.size = cells.size) (h1 : cells.all (·.oneCell') = true)
    (h : K (a.put o.dst undef) (w.setRow g cells)) : if Region.wanted o (yielded ops a.tmps) = true then Oper.wp P o a w K Q else E := by
  rw [if_pos (by simp [Region.wanted, hgd])]
  exact wp_store_row ty x y ho g cells hx hy t old hg hi hold h1 h
/-- Results: a struct variable and a slot. -/
theorem results_row_tmp {P : Program} {fn : Func} {p q : Tmp} {ty : TypeId} (h : fn.results = #[.cell p ty, .tmp q]) (tmps : Array Value) (w : World) (g : Nat) (t : TypeId) (cs : Array Value) (fr : Nat × Nat) (d : TypeDesc) (v : Value)
    (hp : tmps.getD p undef = .pointer (some ⟨g, 0, none⟩)) (hv : tmps.getD q undef = v) (hg : w.heap[g]? = some (.cells cs t fr))
    (hu : P.underlying ty = some d) (hd : (match d with | .struct _ | .array _ _ => true | _ => false) = true) (hi : (P.info? ty).map (·.size) = some cs.size) :
    (results fn tmps).run P w = .ok (.tuple #[.agg cs, v]) w := by
  have hp' : tmps[p]?.getD undef = .pointer (some ⟨g, 0, none⟩) := by simpa using hp
  have hv' : tmps[q]?.getD undef = v := by simpa using hv
  simp [results, h, hp', hv', asAddr, run_loadVar_row w g t ty cs fr d hg hu hd hi]
end Go.Proofs.YtkocbfikcjgigaaGreat

/-
  The walk of the model's copy of a wheel. By the verifier.
-/
namespace Go.Proofs.YtkocbfikcjgigaaGreat
open Go.RowKit

/-- What lies while rows are copied: so many lists, the rows that are made, the answer's variable, what came in. -/
structure CpW (w : World) (f : Int) (a : Option Addr) (n c : Nat) (ls : List (List Du)) (k : Nat) (v : Value) (vs : List Value) (wr : World) : Prop where
  g : DzG (w.heap.size + 3) v vs (ls.take k) wr
  out : Boxed wr (w.heap.size + 1 + 1) #[.int .i64 f, v] 29
  res : Boxed wr (w.heap.size + 1) #[.int .i64 0, .slice none 0 0] 29
  box : Boxed wr w.heap.size #[.int .i64 f, .slice a n c] 29
  bel : Below w.heap.size w wr
theorem CpW.drew {w : World} {f : Int} {a : Option Addr} {n c : Nat} {ls : List (List Du)} {k : Nat} {v : Value} {vs : List Value} {wr : World} (h : CpW w f a n c ls k v vs wr) : CpW w f a n c ls k v vs wr.drew :=
  ⟨h.g.below (Below.refl _ _).drew, h.out, h.res, h.box, h.bel.drew⟩
/-- One list more. -/
theorem CpW.add {w : World} {f : Int} {a : Option Addr} {n c : Nat} {ls : List (List Du)} {k : Nat} {v v' u : Value} {vs : List Value} {wr wd wx : World} (h : CpW w f a n c ls k v vs wr) (hk : k < ls.length) (g1 : Below wr.heap.size wr wd) (hu : DuRow wr.heap.size wd u (dzAt ls k))
    (ho : wx.ownsRow (w.heap.size + 3) 24 1 v' (k + 1) (vs ++ [u])) (g2 : ∀ y, v.ownBlock ≠ some y → y < wd.heap.size → wx.heap[y]? = wd.heap[y]?) (g3 : Below (w.heap.size + 3) wd wx) :
    CpW w f a n c ls (k + 1) v' (vs ++ [u]) (wx.setCell ⟨w.heap.size + 1 + 1, 1, none⟩ v') := by
  have hs := h.out.under
  have hlk : (ls.take k).length = k := by simp; omega
  have e : ls.take (k + 1) = ls.take k ++ [dzAt ls k] := by rw [List.take_succ_eq_append_getElem hk, dzAt_lt hk]
  have hg : DzG (w.heap.size + 3) v' (vs ++ [u]) (ls.take (k + 1)) wx := by
    rw [e]
    exact h.g.add (by omega) g1 hu (by rw [hlk]; exact ho) g2
  have b1 : ∀ y, y < w.heap.size + 3 → wx.heap[y]? = wr.heap[y]? := fun y hy => (g3.block y hy).trans (g1.block y (by omega))
  have oth : ∀ y, y ≠ w.heap.size + 1 + 1 → (wx.setCell ⟨w.heap.size + 1 + 1, 1, none⟩ v').heap[y]? = wx.heap[y]? := fun y hy => Below.heap_setCell _ _ _ _ hy
  have o1 : Boxed wx (w.heap.size + 1 + 1) #[.int .i64 f, v] 29 := (b1 _ (by omega)).trans h.out
  refine ⟨hg.other fun y hy _ => oth y (by omega), o1.put 1 v', ?_, ?_, ?_⟩
  · exact (oth _ (by omega)).trans ((b1 _ (by omega)).trans h.res)
  · exact (oth _ (by omega)).trans ((b1 _ (by omega)).trans h.box)
  · exact (h.bel.trans ((g1.mono h.bel.size).trans (g3.mono (by omega)))).setCell (by show w.heap.size ≤ w.heap.size + 1 + 1; omega) _

set_option maxHeartbeats 6400000 in
set_option maxRecDepth 100000 in
theorem specWhCopy (r : Wh) (a : Option Addr) (c : Nat) (w : World) (hB : r.big ≤ 1048576) (h : Hid (DzAt w a r.slots)) :
    Calls Tryz.prog 48 #[r.val a c] w fun e w' => (∃ v vs, e = .returned (.agg #[.int .i64 r.step, v]) ∧ DzG (w.heap.size + 3) v vs r.slots w') ∧ Below w.heap.size w w' := by
  obtain ⟨hT, -, hin⟩ := Wh.small hB
  obtain ⟨f, ls⟩ := r
  simp only [Wh.val] at h hT hin ⊢
  clear hB
  have Hin : Hid (∀ k, k < ls.length → (dzAt ls k).length ≤ 1048576) := hin
  obtain ⟨n, hn⟩ : ∃ n, ls.length = n := ⟨_, rfl⟩
  rw [hn] at hT ⊢
  have Hn : Hid (ls.length = n) := hn
  clear hn hin
  obtain ⟨W, hW⟩ : ∃ W, W = ((w.alloc (.cells #[.int .i64 f, .slice a n c] 29)).alloc (.cells #[.int .i64 0, .slice none 0 0] 29)).alloc (.cells #[.int .i64 f, .slice none 0 0] 29) := ⟨_, rfl⟩
  have X : Hid (CpW w f a n c ls 0 (.slice none 0 0) [] W) := by
    rw [hW]
    refine ⟨by rw [List.take_zero]; exact DzG.nil _ _, ?_, ?_, ((Boxed.new w _ _).more _).more _, (((Below.refl _ _).alloc (Nat.le_refl _) _).alloc (by simp) _).alloc (by simp; omega) _⟩
    · have := Boxed.new ((w.alloc (.cells #[.int .i64 f, .slice a n c] 29)).alloc (.cells #[.int .i64 0, .slice none 0 0] 29)) #[.int .i64 f, .slice none 0 0] 29
      simpa using this
    · have := (Boxed.new (w.alloc (.cells #[.int .i64 f, .slice a n c] 29)) #[.int .i64 0, .slice none 0 0] 29).more (.cells #[.int .i64 f, .slice none 0 0] 29)
      simpa using this
  have HW : Hid (W = _) := hW
  clear hW
  go_enter Tryz.func48, Tryz.ntmps48
  go_wp2
  rw [← HW.out]
  go_loopw [4] (fun i wr => ∃ k : Nat, k ≤ n ∧ i = .int .i64 k ∧ Hid (∃ v vs, CpW w f a n c ls k v vs wr)) (fun i _ => n - (intOf i).toNat)
  case atStart => exact ⟨0, Nat.zero_le _, rfl, _, _, X.out⟩
  case round =>
    obtain ⟨k, hk, rfl, HE⟩ := hrel
    obtain ⟨v, vs, H1⟩ : ∃ v vs, Hid (CpW w f a n c ls k v vs wr) := HE.out
    clear X HE
    have c1 : wr.cell? ⟨w.heap.size, 1, none⟩ = some (.slice a n c) := H1.out.box.cell 1 rfl
    by_cases hlt : k < n
    · have hkl : k < ls.length := by rw [Hn.out]; exact hlt
      obtain ⟨b, off, ak, ck, ha, hb, hc, hr, hcap, hnil⟩ := (h.out.below H1.out.bel) k hkl
      subst ha
      have hm := Hin.out k hkl
      have d1 : wr.cell? ⟨w.heap.size + 1 + 1, 1, none⟩ = some v := H1.out.out.cell 1 rfl
      have z1 := H1.out.out.ice 1
      have Hr : Hid (DusAt wr ak (dzAt ls k)) := hr
      have Add : Hid (∀ u v' wd wx, Below wr.heap.size wr wd → DuRow wr.heap.size wd u (dzAt ls k) → wx.ownsRow (w.heap.size + 3) 24 1 v' (k + 1) (vs ++ [u]) → (∀ y, v.ownBlock ≠ some y → y < wd.heap.size → wx.heap[y]? = wd.heap[y]?) → Below (w.heap.size + 3) wd wx → CpW w f (some ⟨b, off, none⟩) n c ls (k + 1) v' (vs ++ [u]) (wx.setCell ⟨w.heap.size + 1 + 1, 1, none⟩ v')) := fun u v' wd wx q1 q2 q3 q4 q5 => H1.out.add hkl q1 q2 q3 q4 q5
      have Out : Hid (wr.ownsRow (w.heap.size + 3) 24 1 v k vs ∧ w.heap.size + 3 ≤ wr.heap.size) := ⟨by have := H1.out.g.outer; rw [List.length_take, Nat.min_eq_left (by omega)] at this; exact this, H1.out.out.under⟩
      generalize dzAt ls k = l at hc Hr hm Add hr hcap
      obtain ⟨m, hml⟩ : ∃ m, l.length = m := ⟨_, rfl⟩
      rw [hml] at hc hm hcap
      have Hml : Hid (l.length = m) := hml
      have l2 : w.heap.size + 1 + 1 < wr.heap.size := H1.out.out.under
      have l0 : w.heap.size < wr.heap.size := by omega
      clear hr hml
      go_wp2_with fail
      go_region_law (first | (refine du_step_app rfl (.tmp 17) (.tmp 22) rfl wr.heap.size (.slice (some ⟨wr.heap.size, 0, none⟩) 0 0) [] ak m ck l Hml.out rfl rfl (du_built _ _ (Nat.le_refl _)) (Hr.out.alloc _) hnil (by rw [Hml.out]; simp; omega) (by simp) ?_; intro u w2 q1 q2 q3 q4; have q5 : DuRow wr.heap.size w2 u l := (by simpa using q1); obtain ⟨ux, uc, eu⟩ := q5.shape; rw [Hml.out] at eu; subst eu; have U : Hid (DuRow wr.heap.size w2 (.slice ux m uc) l ∧ Below wr.heap.size wr w2) := ⟨q5, ((Below.refl _ wr).drew.alloc (Nat.le_refl _) _).trans q2⟩; have hs2 : w.heap.size + 3 ≤ w2.heap.size := Nat.le_trans Out.out.2 U.out.2.size; have l3 : w.heap.size + 1 + 1 < w2.heap.size := (by omega); have O2 : Hid (w2.ownsRow (w.heap.size + 3) 24 1 v k vs) := rows_carry Out.out.1 (fun y _ hy => U.out.2.block y hy); have d2 : w2.cell? ⟨w.heap.size + 1 + 1, 1, none⟩ = some v := ((H1.out.out.below (by omega) U.out.2).cell 1 rfl); have z2 := ((H1.out.out.below l2 U.out.2).ice 1); clear q1 q2 q3 q4 q5) | (refine dz_step_one rfl (.tmp 16) (.tmp 24) rfl (w.heap.size + 3) v k vs (.slice ux m uc) rfl rfl rfl O2.out rfl rfl (by omega) hs2 ?_; intro v' w3 q1 q2 q3; obtain ⟨vx, vc, ev⟩ := rows_shape q1; subst ev; have R3 : Hid (CpW w f (some ⟨b, off, none⟩) n c ls (k + 1) (.slice vx (k + 1) vc) (vs ++ [.slice ux m uc]) (w3.setCell ⟨w.heap.size + 1 + 1, 1, none⟩ (.slice vx (k + 1) vc))) := Add.out (.slice ux m uc) _ w2 w3 U.out.2 U.out.1 q1 q3 q2; have d3 : ∃ y, w3.cell? ⟨w.heap.size + 1 + 1, 1, none⟩ = some y := ⟨v, by rw [q2.cell (p := ⟨w.heap.size + 1 + 1, 1, none⟩) (by simp)]; exact d2⟩; obtain ⟨y3, d3⟩ := d3; have z3 : w3.frozen? ⟨w.heap.size + 1 + 1, 1, none⟩ = false := (by rw [ice_kept (q2.block (w.heap.size + 1 + 1) (by omega))]; exact z2); clear q1 q2 q3))
      all_goals (
        go_wp2
        go_roundw
        case rel => exact ⟨k + 1, by omega, by go_num, _, _, R3.out⟩
        case measure => simp [intOf]; omega)
    · obtain rfl : k = n := by omega
      have e : ls.take k = ls := List.take_of_length_le (by rw [Hn.out]; exact Nat.le_refl _)
      have HG : Hid (DzG (w.heap.size + 3) v vs ls wr) := by have := H1.out.g; rw [e] at this; exact this
      obtain ⟨vx, vc, ev⟩ := rows_shape H1.out.g.outer
      clear e
      subst ev
      go_wp2_with (first | (refine wpList_load_row rfl 29 (.tmp 3) rfl (w.heap.size + 1 + 1) rfl _ _ _ _ H1.out.out Tryz.underlying29 rfl (by kernel_rfl) ?_) | (refine wpList_store_row rfl 29 (.tmp 2) (.tmp 27) rfl (w.heap.size + 1) _ rfl rfl _ _ H1.out.res (by kernel_rfl) rfl (by simp [Value.oneCell']) ?_))
      refine bodyPost_ret (results_cell_row Tryz.results48 _ _ (w.heap.size + 1) _ _ _ _ rfl (setRow_heap _ (w.heap.size + 1) _ _ _ _ H1.out.res) Tryz.underlying29 rfl (by kernel_rfl)) rfl ⟨⟨_, vs, rfl, HG.out.other fun y hy _ => setRow_other _ _ _ _ (by omega)⟩, below_setRow H1.out.bel (by omega) _⟩
end Go.Proofs.YtkocbfikcjgigaaGreat
