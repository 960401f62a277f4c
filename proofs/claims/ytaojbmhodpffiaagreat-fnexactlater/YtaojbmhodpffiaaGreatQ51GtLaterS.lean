import Derived.Test.YtaojbmhodpffiaaGreatQ6NdPlain
import Derived.Test.YtaojbmhodpffiaaGreatQ16Quiet
import Derived.Laws.AppendOwnNone
import Derived.Lib.SliceRun
import Derived.WalkKit
import Derived.WalkSpells
import Derived.WalkLawsBesides
import Derived.Handy
import Derived.Test.YtaojbmhodpffiaaGreatQ27GtOwn
import Derived.Test.YtaojbmhodpffiaaGreatQ13GtFn
import Derived.Test.YtaojbmhodpffiaaGreatQ18NdSpec
import Derived.Test.YtaojbmhodpffiaaGreatQ2NumIn
import Derived.Test.YtaojbmhodpffiaaGreatQ1Boxed
import Derived.Test.YtaojbmhodpffiaaGreatQ15StepRow
import Derived.Laws.ResultCell
import Derived.Laws.CopyOwn
import Derived.RegionTactic
import Derived.Test.YtaojbmhodpffiaaGreatQ28GtZero
import Derived.Deep.RegionWith
import Derived.BigRegion
/-
  Records (Node) put behind records of the call's own. By the verifier, by program.
-/
namespace Go.Proofs.YtaojbmhodpffiaaGreat
open Go.RowKit

theorem nd_app_run (w : World) (ty : TypeId) (base : Nat) (v : Value) (L : List Nd) (a0 : Option Addr) (c : Nat) (M : List Nd) (h : NdRow base w v L) (hM : NdsAt w a0 M) (hn : a0 = none → c = 0) (hl : L.length + M.length ≤ 2097152) (hb : base ≤ w.heap.size) :
    ∃ v' w', (Builtin.append_ #[42, 42] ty #[v, .slice a0 M.length c]).run Tryz.prog w = .ok v' w' ∧ NdRow base w' v' (L ++ M) ∧ Below base w w' ∧ w.grownBy w' v.ownBlock ∧ (v' = .slice none 0 0 → v = .slice none 0 0) := by
  obtain ⟨i0, hi0, hz0, hz1, hz2⟩ := info_parts ndInfo
  cases a0 with
  | none =>
    obtain rfl := hM.empty
    obtain rfl := hn rfl
    refine ⟨v, w, run_append_owned_none (P := Tryz.prog) (w := w) base 42 ty 134 i0 5 Tryz.underlying42 hi0 v _ _ h, by simpa using h, Below.refl _ _, ⟨rfl, rfl, rfl, Nat.le_refl _, fun _ _ _ => rfl⟩, id⟩
  | some ad =>
    obtain ⟨v', w', h1, h2, h3, h4⟩ := run_append_own (P := Tryz.prog) w base 42 ty 134 i0 (.agg #[.int .i64 0, .int .i64 0, .int .i64 0, .int .i64 0, .int .i64 0]) 5 40 Tryz.underlying42 hi0 hz0 hz1 hz2 rfl (by decide) v _ _ h ad M.length c (ndcells M) (ndcells_length M)
      (by
        intro j u hj
        have hj' : j < M.length * 5 := by
          have := (List.getElem?_eq_some_iff.1 hj).1
          rwa [ndcells_length] at this
        obtain ⟨k, i, rfl, hi⟩ : ∃ k i, j = k * 5 + i ∧ i < 5 := ⟨j / 5, j % 5, by omega, Nat.mod_lt _ (by omega)⟩
        have hk : k < M.length := by omega
        obtain ⟨b, off, e, _, c0, c1, c2, c3, c4⟩ := hM k hk
        cases e
        obtain ⟨e0, e1, e2, e3, e4⟩ := ndcells_get M k hk
        rw [show (⟨b, off, none⟩ : Addr).add (k * 5 + i) = ⟨b, off + k * 5 + i, none⟩ by by_cases h0 : k * 5 + i = 0 <;> simp [Addr.add, h0, Nat.add_assoc]; omega]
        match i, hi with
        | 0, _ => rw [Nat.add_zero] at hj; rw [e0] at hj; rw [Nat.add_zero, c0]; exact hj
        | 1, _ => rw [e1] at hj; rw [c1]; exact hj
        | 2, _ => rw [e2] at hj; rw [c2]; exact hj
        | 3, _ => rw [e3] at hj; rw [c3]; exact hj
        | 4, _ => rw [e4] at hj; rw [c4]; exact hj)
      (ndcells_one M) (by unfold maxLen; omega) (by omega) hb
    refine ⟨v', w', h1, ?_, (Below.refl base w).grown h3 hb (fun k hk => (h.lt k hk).1), h3, fun e => (h4.1 e).1⟩
    unfold NdRow
    rw [List.length_append, ndcells_append]
    exact h2
/-- As a step of a walk. -/
theorem nd_app {ops : Array Oper} {rest : List Oper} {o : Oper} {a : Act} {Q : Exit → Act → World → Prop} {w : World} (hgd : o.guard = none) (s x : Operand)
    (ho : o.op = .call { callee := .builtin .append, args := #[s, x], argTypes := #[42, 42] })
    (base : Nat) (v : Value) (L : List Nd) (a0 : Option Addr) (m c : Nat) (M : List Nd) (hm : M.length = m) (hs : a.eval s = v) (hx : a.eval x = .slice a0 m c) (hr : NdRow base w v L) (hM : NdsAt w a0 M) (hn : a0 = none → c = 0)
    (hl : L.length + M.length ≤ 2097152) (hb : base ≤ w.heap.size)
    (h : ∀ v' w', NdRow base w' v' (L ++ M) → Below base w w' → w.grownBy w' v.ownBlock → (v' = .slice none 0 0 → v = .slice none 0 0) → wpList Tryz.prog ops Q rest (a.put o.dst v') w') :
    wpList Tryz.prog ops Q (o :: rest) a w := by
  subst hm
  obtain ⟨v', w', hrun, h1, h2, h3, h4⟩ := nd_app_run w o.type base v L a0 c M hr hM hn hl hb
  refine wpList_plain hgd fun _ hK => ?_
  unfold Oper.wp
  simp [execOp, ho, resolve, invoke, builtin, hs, hx, hrun, Result.andThen]
  exact hK _ _ (h v' w' h1 h2 h3 h4)
/-- The empty list that was built. -/
theorem nd_built (w : World) (base : Nat) (hb : base ≤ w.heap.size) : NdRow base (w.alloc (.cells #[] 134)) (.slice (some ⟨w.heap.size, 0, none⟩) 0 0) [] :=
  World.ownsRow_lit (size := 5) w #[] 0 hb (by unfold maxLen; omega) rfl
theorem NdRow.none {base : Nat} {w : World} {a : Option Addr} {n cap : Nat} {l : List Nd} (h : NdRow base w (.slice a n cap) l) : a = .none → cap = 0 := by
  rintro rfl
  rcases h.2 with ⟨e, _⟩ | ⟨g, cap', cur, e, _⟩
  · cases e; rfl
  · cases e
theorem NdRow.some {base : Nat} {w : World} {v : Value} {l : List Nd} (h : NdRow base w v l) (hv : v ≠ .slice .none 0 0) : ∃ g cap, v = .slice (.some ⟨g, 0, .none⟩) l.length cap := by
  rcases h.2 with ⟨e, _⟩ | ⟨g, cap, cur, e, _⟩
  · exact absurd e hv
  · exact ⟨g, cap, e⟩
end Go.Proofs.YtaojbmhodpffiaaGreat

/-
  A gate in a variable, its lists of the call's own: one part put, the others stay. By the verifier.
-/
namespace Go.Proofs.YtaojbmhodpffiaaGreat
open Go.RowKit

/-- A gate in a variable. -/
structure GtB (b B : Nat) (w : World) (x : Ga) (vs : List Value) (rs : List Fwr) (g : Gt) : Prop where
  box : Boxed w B (g.cells x) 51
  own : GtO b w x vs rs g
section
variable {b B : Nat} {w w' : World} {x : Ga} {vs : List Value} {rs : List Fwr} {g : Gt}
theorem GtB.below (h : GtB b B w x vs rs g) (q : Below w.heap.size w w') : GtB b B w' x vs rs g := ⟨h.box.below h.box.under q, h.own.below q⟩
/-- A list lies where no gate's variable lies. -/
theorem gate_off {e : TypeId} {c n : Nat} {v : Value} {xs : List Value} (h : Boxed w B (g.cells x) 51) (r : w.ownsRow b e c v n xs) (hne : 51 ≠ e) : v.ownBlock ≠ some B := by
  intro hk
  rcases r.2 with ⟨rfl, _⟩ | ⟨k, cap, cur, rfl, _, hg, _⟩
  · cases hk
  · cases hk
    unfold Boxed at h
    rw [h] at hg
    simp only [Option.some.injEq, Obj.cells.injEq] at hg
    exact hne hg.2.1
theorem irow_carry {v : Value} {l : List Int} (h : IRow b w v l) (q : ∀ k, v.ownBlock = some k → k < w.heap.size → w'.heap[k]? = w.heap[k]?) : IRow b w' v l := by
  refine ⟨h.1, h.2.imp id ?_⟩
  rintro ⟨k, cap, cur, h1, h2, h3, h4⟩
  exact ⟨k, cap, cur, h1, h2, by rw [q k (by rw [h1]; rfl) (Array.getElem?_eq_some_iff.1 h3).1]; exact h3, h4⟩
theorem IzG.carry {v : Value} {ls : List (List It)} (h : IzG b v vs ls w) (q1 : ∀ k, v.ownBlock = some k → k < w.heap.size → w'.heap[k]? = w.heap[k]?) (q2 : ∀ i k, i < ls.length → (izV vs i).ownBlock = some k → k < w.heap.size → w'.heap[k]? = w.heap[k]?) : IzG b v vs ls w' :=
  ⟨rows_carry h.outer q1, h.len, fun i hi => (h.row i hi).carry fun k hk hl => q2 i k hi hk hl, h.apart⟩
theorem FwG.carry {v : Value} {l : List Fw} (h : FwG b v rs l w) (q1 : ∀ k, v.ownBlock = some k → k < w.heap.size → w'.heap[k]? = w.heap[k]?) (q2 : ∀ i k, i < l.length → (fwrAt rs i).hd.ownBlock = some k → k < w.heap.size → w'.heap[k]? = w.heap[k]?) : FwG b v rs l w' :=
  ⟨rows_carry h.outer q1, h.len, h.num, fun i hi => irow_carry (h.row i hi) fun k hk hl => q2 i k hi hk hl, h.apart⟩
/-- The tree put. -/
theorem GtO.putTree (h : GtO b w x vs rs g) {l : List Nd} {gt : Nat} (ht : (Value.slice x.a3 g.tree.length x.c3).ownBlock = some gt) (r : NdRow b w' (.slice x.a3 l.length x.c3) l) (q : ∀ k, k ≠ gt → k < w.heap.size → w'.heap[k]? = w.heap[k]?) : GtO b w' x vs rs { g with tree := l } := by
  have un : ∀ {e : TypeId} {c n : Nat} {v : Value} {xs : List Value}, w.ownsRow b e c v n xs → 134 ≠ e → ∀ k, v.ownBlock = some k → k < w.heap.size → w'.heap[k]? = w.heap[k]? := fun hr hne k hk hl => q k (fun e => rows_unlike h.tree hr hne gt ht (by rw [← e]; exact hk)) hl
  exact ⟨h.routes.carry (un h.routes (by decide)), h.rules.carry (un h.rules (by decide)), r, irow_carry h.leaves (un h.leaves (by decide)), h.rows.carry (un h.rows.outer (by decide)) (fun i k hi => un (h.rows.row i hi) (by decide) k), h.steers.carry (un h.steers (by decide)), h.fair.carry (un h.fair.outer (by decide)) (fun i k hi => un (h.fair.row i hi) (by decide) k), h.apart⟩
theorem Gt.cells_tree {l l' : List Nd} (hl : l'.length = l.length) : ({ g with tree := l' } : Gt).cells x = ({ g with tree := l } : Gt).cells x := by
  unfold Gt.cells
  simp only [hl]
theorem GtB.putTree {l l' : List Nd} {gt : Nat} (h : GtB b B w x vs rs { g with tree := l }) (hl : l'.length = l.length) (ea : x.a3 = some ⟨gt, 0, none⟩) (r : NdRow b w' (.slice (some ⟨gt, 0, none⟩) l'.length x.c3) l') (q : ∀ k, k ≠ gt → k < w.heap.size → w'.heap[k]? = w.heap[k]?) : GtB b B w' x vs rs { g with tree := l' } := by
  have hb : (Value.slice x.a3 l.length x.c3).ownBlock = some gt := by rw [ea]; rfl
  have hne : B ≠ gt := fun e => gate_off h.box h.own.tree (by decide) (by rw [e]; exact hb)
  refine ⟨?_, h.own.putTree (l := l') (gt := gt) hb (by rw [ea]; exact r) q⟩
  rw [Gt.cells_tree hl]
  exact (q B hne h.box.under).trans h.box
end
end Go.Proofs.YtaojbmhodpffiaaGreat

/-
  So many of a tree filled. By the verifier.
-/
namespace Go.Proofs.YtaojbmhodpffiaaGreat
open Go.RowKit

/-- So many filled. -/
def tfills (l : List Nd) (now : Int) (i : Nat) : List Nd := (tfill l now).take i ++ l.drop i
theorem tfills_len (l : List Nd) (now : Int) (i : Nat) (h : i ≤ l.length) : (tfills l now i).length = l.length := by
  unfold tfills
  rw [List.length_append, List.length_take, tfill_len, List.length_drop]
  omega
theorem tfills_zero (l : List Nd) (now : Int) : tfills l now 0 = l := by simp [tfills]
theorem tfills_all (l : List Nd) (now : Int) : tfills l now l.length = tfill l now := by
  unfold tfills
  rw [List.drop_length, List.append_nil, ← tfill_len l now, List.take_length]
theorem tfills_at (l : List Nd) (now : Int) (i : Nat) (h : i < l.length) : ndAt (tfills l now i) i = ndAt l i := by
  unfold tfills ndAt
  rw [List.getElem?_append_right (by rw [List.length_take, tfill_len]; omega), List.length_take, tfill_len, List.getElem?_drop]
  congr 2
  omega
theorem tfills_next (l : List Nd) (now : Int) (i : Nat) (h : i < l.length) : (tfills l now i).set i ⟨(ndAt l i).up, (ndAt l i).pz.fill now⟩ = tfills l now (i + 1) := by
  unfold tfills
  have h2 : i < (tfill l now).length := by rw [tfill_len]; exact h
  rw [List.set_append_right _ _ (by rw [List.length_take]; omega), List.length_take, tfill_len, Nat.min_eq_left (Nat.le_of_lt h), Nat.sub_self, List.drop_eq_getElem_cons h, List.set_cons_zero, List.take_succ_eq_append_getElem h2, List.append_assoc]
  have e := ndAt_tfill (l := l) now h
  rw [ndAt_lt h2] at e
  rw [e]
  rfl
end Go.Proofs.YtaojbmhodpffiaaGreat

/-
  Single cells of a list of Nodes put. By the verifier.
-/
namespace Go.Proofs.YtaojbmhodpffiaaGreat
open Go.RowKit

theorem ndcells_purse (l : List Nd) (k : Nat) (u : Int) (p : Pz) (hk : k < l.length) (hu : (ndAt l k).up = u) :
    ((((ndcells l).set (k * 5 + 1) (.int .i64 p.rate)).set (k * 5 + 2) (.int .i64 p.burst)).set (k * 5 + 3) (.int .i64 p.level)).set (k * 5 + 4) (.int .i64 p.tm) = ndcells (l.set k ⟨u, p⟩) := by
  induction l generalizing k with
  | nil => simp at hk
  | cons x l ih =>
    cases k with
    | zero =>
      have e : x.up = u := by simpa [ndAt] using hu
      simp [ndcells_cons, e]
    | succ k =>
      rw [show (k + 1) * 5 = k * 5 + 5 by omega, List.set_cons_succ, ndcells_cons, ndcells_cons, ← ih k (by simpa using hk) (by simpa [ndAt] using hu)]
      rfl
end Go.Proofs.YtaojbmhodpffiaaGreat

/-
  The walks of the model's purses. By the verifier.
-/
namespace Go.Proofs.YtaojbmhodpffiaaGreat
open Go.RowKit

set_option maxHeartbeats 3200000 in
set_option maxRecDepth 100000 in
theorem specFillL (p : Pz) (now : Int) (w : World) (hok : p.ok = true) (hat : p.at' now = true) :
    Calls Tryz.prog 117 #[p.val, .int .i64 now] w fun e w' => e = .returned (p.fill now).val ∧ Below w.heap.size w w' := by
  have h := Pz.ok_iff.1 hok
  unfold Pz.at' at hat
  rw [inB_true] at hat
  have hm := mul_small (a := p.rate) (b := now - p.tm) h.1.1 h.1.2 (by omega) (by omega)
  obtain ⟨v0, v1, v2, v3⟩ := p
  simp only [Pz.val, Pz.fill] at h hat hm ⊢
  have k1 : IntKind.i64.wrap (now - v3) = now - v3 := by rw [IntKind.wrap_i64]; omega
  have k2 : IntKind.i64.wrap (v0 * (now - v3)) = v0 * (now - v3) := by rw [IntKind.wrap_i64]; omega
  have k3 : IntKind.i64.wrap (v2 + v0 * (now - v3)) = v2 + v0 * (now - v3) := by rw [IntKind.wrap_i64]; omega
  have A := fun w => specMin v1 (v2 + v0 * (now - v3)) w
  generalize min v1 (v2 + v0 * (now - v3)) = z at A ⊢
  have A' : Hid _ := A
  clear A h hat hm hok
  have H : Hid (Below w.heap.size w ((w.alloc (.cells #[.int .i64 v0, .int .i64 v1, .int .i64 z, .int .i64 now] 132)).alloc (.cells #[.int .i64 v0, .int .i64 v1, .int .i64 z, .int .i64 now] 132))) := ((Below.refl _ w).alloc (Nat.le_refl _) _).alloc (by simp) _
  go_enter Tryz.func117, Tryz.ntmps117
  go_wp2_with fail
  refine (A'.out _).mono ?_
  rintro e w' ⟨rfl, rfl⟩
  go_wp2
  exact bodyPost_ret (v := .agg #[.int .i64 v0, .int .i64 v1, .int .i64 z, .int .i64 now]) (by simp [results, Tryz.results117, go_sem]) rfl ⟨rfl, H.out⟩

end Go.Proofs.YtaojbmhodpffiaaGreat

/-
  The walk of the model's Later. By the verifier.
-/
namespace Go.Proofs.YtaojbmhodpffiaaGreat
open Go.RowKit

theorem nd_four {w : World} {b gt c len i : Nat} {cs : List Value} (h : w.ownsRow b 134 5 (.slice (some ⟨gt, 0, none⟩) len c) len cs) (hl : cs.length = len * 5) (hi : i < len) : (∃ v, w.cell? ⟨gt, i * 5 + 1, none⟩ = some v) ∧ (∃ v, w.cell? ⟨gt, i * 5 + 2, none⟩ = some v) ∧ (∃ v, w.cell? ⟨gt, i * 5 + 3, none⟩ = some v) ∧ ∃ v, w.cell? ⟨gt, i * 5 + 4, none⟩ = some v := by
  have ex : ∀ j, j < len * 5 → ∃ v, w.cell? ⟨gt, j, none⟩ = some v := by
    intro j hj
    rw [h.cellAt j hj]
    exact ⟨_, List.getElem?_eq_getElem (by rw [hl]; exact hj)⟩
  exact ⟨ex _ (by omega), ex _ (by omega), ex _ (by omega), ex _ (by omega)⟩
theorem four_off {w : World} {gt k a b c d : Nat} {u v y z : Value} (h : k ≠ gt) : ((((w.setCell ⟨gt, a, none⟩ u).setCell ⟨gt, b, none⟩ v).setCell ⟨gt, c, none⟩ y).setCell ⟨gt, d, none⟩ z).heap[k]? = w.heap[k]? := by
  rw [Below.heap_setCell _ _ _ _ (by exact h), Below.heap_setCell _ _ _ _ (by exact h), Below.heap_setCell _ _ _ _ (by exact h), Below.heap_setCell _ _ _ _ (by exact h)]

set_option maxHeartbeats 6400000 in
set_option maxRecDepth 100000 in
theorem specLaterP (b B : Nat) (x : Ga) (vs : List Value) (rs : List Fwr) (g : Gt) (now : Int) (w : World) (hok : tok g.tree = true) (hbB : b ≤ B) (h : Hid (GtB b B w x vs rs g)) :
    Calls Tryz.prog 57 #[.pointer (some ⟨B, 0, none⟩), .int .i64 now] w fun e w' => e = .returned (.bool (tnow g.tree now)) ∧ GtB b B w' x vs rs (if tnow g.tree now = true then { g with tree := tfill g.tree now } else g) ∧ Below b w w' := by
  have A2 := fun w1 => specIn now (ndAt g.tree 0).pz.tm 1099511627776 w1
  have e0 : inB (ndAt g.tree 0).pz.tm 1099511627776 now = tnow g.tree now := rfl
  rw [e0] at A2
  clear e0
  have A3 : Hid (tnow g.tree now = true → ∀ k w, k < g.tree.length → Calls Tryz.prog 117 #[(ndAt g.tree k).pz.val, .int .i64 now] w fun e w' => e = .returned ((ndAt g.tree k).pz.fill now).val ∧ Below w.heap.size w w') := fun e2 k w hk => specFillL _ now w (tok_at hok hk).1 (by
    unfold Pz.at'
    rw [(tok_at hok hk).2.1]
    exact e2)
  obtain ⟨hpos, h12, -⟩ := tok_iff.1 hok
  obtain ⟨gt, c3, e3⟩ := h.out.own.tree.some (fun e => by have e2 := (Value.slice.inj e).2.1; omega)
  obtain ⟨ea, -, ec⟩ := Value.slice.inj e3
  have hbt : b ≤ gt := (h.out.own.tree.lt gt (by rw [e3]; rfl)).1
  have HBt : Hid (b ≤ gt ∧ b ≤ B) := ⟨hbt, hbB⟩
  have Sp : Hid (∀ (w1 : World) (l : List Nd), l.length = g.tree.length → GtB b B w1 x vs rs { g with tree := l } → w1.cell? ⟨B, 5, none⟩ = some (.slice (some ⟨gt, 0, none⟩) g.tree.length x.c3) ∧ NdRow b w1 (.slice (some ⟨gt, 0, none⟩) l.length x.c3) l ∧ B < w1.heap.size) := fun w1 l hl h1 => by
    have c := h1.box.cell 5 rfl
    have c5 : w1.cell? ⟨B, 5, none⟩ = some (.slice x.a3 l.length x.c3) := c
    rw [ea, hl] at c5
    have r := h1.own.tree
    rw [ea] at r
    exact ⟨c5, r, h1.box.under⟩
  have T0 : Hid (GtB b B w x vs rs { g with tree := tfills g.tree now 0 }) := by
    show GtB b B w x vs rs { g with tree := tfills g.tree now 0 }
    rw [tfills_zero]
    exact h.out
  have Fin : Hid (tfills g.tree now g.tree.length = tfill g.tree now) := tfills_all g.tree now
  have Fl : Hid (∀ i, i ≤ g.tree.length → (tfills g.tree now i).length = g.tree.length) := fun i hi => tfills_len g.tree now i hi
  have Fa : Hid (∀ i, i < g.tree.length → ndAt (tfills g.tree now i) i = ndAt g.tree i) := fun i hi => tfills_at g.tree now i hi
  have Fn : Hid (∀ i, i < g.tree.length → (tfills g.tree now i).set i ⟨(ndAt g.tree i).up, (ndAt g.tree i).pz.fill now⟩ = tfills g.tree now (i + 1)) := fun i hi => tfills_next g.tree now i hi
  have S0 : Hid (GtB b B w x vs rs g) := h.out
  have C0 := Sp.out w g.tree rfl (by have := h.out; exact this)
  have t0 := (C0.2.1.at.cells (k := 0) hpos).2.2.2.2
  simp only [Nat.zero_mul, Nat.zero_add] at t0
  obtain ⟨c5, -, hBl⟩ := C0
  generalize tnow g.tree now = b2 at A2 A3 ⊢
  generalize (ndAt g.tree 0).pz.tm = tm0 at A2 t0
  have A2' : Hid _ := A2
  obtain ⟨len, hlen⟩ : ∃ m, g.tree.length = m := ⟨_, rfl⟩
  rw [hlen] at c5 A3 Fin Fl Fa Fn Sp hpos h12
  have Hea : Hid (x.a3 = some ⟨gt, 0, none⟩) := ea
  clear A2 h ea ec e3 hbt hbB hok
  go_enter Tryz.func57, Tryz.ntmps57
  go_wp2_with fail
  refine (A2'.out _).mono ?_
  rintro e w1 ⟨rfl, hw1⟩
  obtain rfl := hw1.symm
  clear hw1 A2' t0
  cases b2
  · clear A3
    go_wp2
    go_ret
    exact ⟨rfl, S0.out, Below.refl _ _⟩
  have A4 : Hid _ := A3.out (by first | exact trivial | exact rfl)
  clear A3 c5 S0 hBl
  go_wp2
  go_loopw [5] (fun s wr => ∃ i : Nat, i ≤ len ∧ s = .int .i64 i ∧ Hid (GtB b B wr x vs rs { g with tree := tfills g.tree now i } ∧ Below b w wr)) (fun s _ => len - (intOf s).toNat)
  case atStart => exact ⟨0, Nat.zero_le _, rfl, T0.out, Below.refl _ _⟩
  case round =>
    obtain ⟨i, hi, rfl, HK⟩ := hrel
    clear T0
    obtain ⟨c5, hr, hBl⟩ := Sp.out wr _ (Fl.out i hi) HK.out.1
    by_cases hlt : i < len
    case neg =>
      obtain rfl : len = i := by omega
      rw [Fin.out] at HK
      clear hr
      go_wp2
      go_ret
      exact ⟨rfl, HK.out.1, HK.out.2⟩
    have hlt' : (i : Int) < (len : Int) := by omega
    have hln := Fl.out i hi
    rw [hln] at hr
    have hrow : wr.ownsRow b 134 5 (.slice (some ⟨gt, 0, none⟩) len x.c3) len (ndcells (tfills g.tree now i)) := by have := hr; unfold NdRow at this; rw [hln] at this; exact this
    have cs := ndcells_get (tfills g.tree now i) i (by rw [hln]; exact hlt)
    rw [Fa.out i hlt] at cs
    obtain ⟨-, g1, g2, g3, g4⟩ := cs
    have c1 := (World.ownsRow.cellAt hrow (i * 5 + 1) (by omega)).trans g1
    have c2' := (World.ownsRow.cellAt hrow (i * 5 + 2) (by omega)).trans g2
    have c3' := (World.ownsRow.cellAt hrow (i * 5 + 3) (by omega)).trans g3
    have c4 := (World.ownsRow.cellAt hrow (i * 5 + 4) (by omega)).trans g4
    clear g1 g2 g3 g4
    have C := fun w => A4.out i w hlt
    have Nx : Hid (∀ w2, Below wr.heap.size wr.drew w2 → w2.ownsRow b 134 5 (.slice (some ⟨gt, 0, none⟩) len x.c3) len (ndcells (tfills g.tree now i)) ∧ GtB b B w2 x vs rs { g with tree := tfills g.tree now i } ∧ Below b w w2 ∧ w2.cell? ⟨B, 5, none⟩ = some (.slice (some ⟨gt, 0, none⟩) len x.c3)) := fun w2 q => by
      have q' : Below wr.heap.size wr w2 := (Below.refl _ wr).drew.trans q
      have h1 := HK.out.1.below q'
      refine ⟨?_, h1, HK.out.2.trans (q'.mono (by have := (World.ownsRow.lt hrow gt rfl).2; have := HBt.out.1; omega)), (Sp.out w2 _ hln h1).1⟩
      have h2 := (Sp.out w2 _ hln h1).2.1
      rw [hln] at h2
      unfold NdRow at h2
      rw [hln] at h2
      exact h2
    have Fi2 : Hid (∀ w2 w3, GtB b B w2 x vs rs { g with tree := tfills g.tree now i } → w3.ownsRow b 134 5 (.slice (some ⟨gt, 0, none⟩) len x.c3) len (((((ndcells (tfills g.tree now i)).set (i * 5 + 1) (.int .i64 ((ndAt g.tree i).pz.fill now).rate)).set (i * 5 + 2) (.int .i64 ((ndAt g.tree i).pz.fill now).burst)).set (i * 5 + 3) (.int .i64 ((ndAt g.tree i).pz.fill now).level)).set (i * 5 + 4) (.int .i64 ((ndAt g.tree i).pz.fill now).tm)) → (∀ k, k ≠ gt → k < w2.heap.size → w3.heap[k]? = w2.heap[k]?) → GtB b B w3 x vs rs { g with tree := tfills g.tree now (i + 1) }) := fun w2 w3 h1 hh h4 => by
      rw [ndcells_purse _ i (ndAt g.tree i).up _ (by rw [hln]; exact hlt) (by rw [Fa.out i hlt]), Fn.out i hlt] at hh
      have hl2 := Fl.out (i + 1) (by omega)
      refine h1.putTree (by rw [hl2, hln]) Hea.out ?_ h4
      unfold NdRow
      rw [hl2]
      exact hh
    generalize (ndAt g.tree i).pz.fill now = y at C Fi2
    generalize (ndAt g.tree i).pz = z at c1 c2' c3' c4 C
    obtain ⟨x1, x2, x3, x4⟩ := z
    obtain ⟨y1, y2, y3, y4⟩ := y
    simp only [Pz.val] at c1 c2' c3' c4 C Fi2
    have hgl : gt < wr.heap.size := (World.ownsRow.lt hrow gt rfl).2
    have C' : Hid _ := C
    have Hl : Hid ((ndcells (tfills g.tree now i)).length = len * 5) := by show (ndcells _).length = _; rw [ndcells_length, hln]
    clear C HK hrow hr hln
    go_upto_region 6 with fail
    go_region_with (go_at_call 117; refine (C'.out _).mono ?_; rintro e w2 ⟨rfl, q⟩; have R : Hid _ := Nx.out _ q; have hg2 : gt < w2.heap.size := Nat.lt_of_lt_of_le hgl q.size; obtain ⟨⟨u1, hu1⟩, ⟨uu2, hu2⟩, ⟨uu3, hu3⟩, ⟨uu4, hu4⟩⟩ := nd_four R.out.1 Hl.out (by omega); have z1 := R.out.1.frozenAt (i * 5 + 1); have z2 := R.out.1.frozenAt (i * 5 + 2); have z3 := R.out.1.frozenAt (i * 5 + 3); have z4 := R.out.1.frozenAt (i * 5 + 4); have F : Hid (GtB b B ((((w2.setCell ⟨gt, i * 5 + 1, none⟩ (.int .i64 y1)).setCell ⟨gt, i * 5 + 2, none⟩ (.int .i64 y2)).setCell ⟨gt, i * 5 + 3, none⟩ (.int .i64 y3)).setCell ⟨gt, i * 5 + 4, none⟩ (.int .i64 y4)) x vs rs { g with tree := tfills g.tree now (i + 1) } ∧ Below b w ((((w2.setCell ⟨gt, i * 5 + 1, none⟩ (.int .i64 y1)).setCell ⟨gt, i * 5 + 2, none⟩ (.int .i64 y2)).setCell ⟨gt, i * 5 + 3, none⟩ (.int .i64 y3)).setCell ⟨gt, i * 5 + 4, none⟩ (.int .i64 y4))) := ⟨Fi2.out w2 _ R.out.2.1 ((((R.out.1.stored (i * 5 + 1) (.int .i64 y1)).1.stored (i * 5 + 2) (.int .i64 y2)).1.stored (i * 5 + 3) (.int .i64 y3)).1.stored (i * 5 + 4) (.int .i64 y4)).1 (fun k hk _ => four_off hk), (((R.out.2.2.1.setCell HBt.out.1 _).setCell HBt.out.1 _).setCell HBt.out.1 _).setCell HBt.out.1 _⟩; have c6 := R.out.2.2.2; clear R q Nx C')
    all_goals (
      go_wp2
      go_roundw
      case rel => exact ⟨i + 1, by omega, by go_num, F.out⟩
      case measure => simp [intOf]; omega)
end Go.Proofs.YtaojbmhodpffiaaGreat
