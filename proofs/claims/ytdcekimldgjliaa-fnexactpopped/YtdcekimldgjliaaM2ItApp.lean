import Derived.Deep.QuietTactic
import Derived.Below
import Derived.Test.YtdcekimldgjliaaItPlain
import Derived.Laws.AppendOwnNone
import Derived.Lib.SliceRun
import Derived.WalkKit
import Derived.WalkSpells
import Derived.WalkLawsBesides
import Derived.Handy
/-
  A region that draws its order and only reads, whose callees lay blocks of their own: walked once, in the class of the worlds in which all that lay lies. By the verifier.
-/
namespace Go.Proofs.Ytdcekimldgjliaa
open Go.RowKit

/-- A world in which all that lay lies. -/
structure BelW (n : Nat) (w : World) where
  w' : World
  h : Below n w w'
theorem region_below {P : Program} {id : Nat} {Q : Exit → Act → World → Prop} {a : Act} {w : World} {l : List Oper} (n : Nat) (hm : P.follows .mixedOrders = true) (hB : Region.lexB .any l.toArray = true)
    (h : wpQuiet P l.toArray (fun x => ∃ p : BelW n w, x = p.w') (fun a' => ∀ x, (∃ p : BelW n w, x = p.w') → Q .normal a' x) l a) : (Code.region id l.toArray true).wp P Q a w :=
  wp_region_quiet (C := fun x => ∃ p : BelW n w, x = p.w') hm hB ⟨⟨w.drew, (Below.refl _ _).drew⟩, rfl⟩ (by simpa using h)
theorem quiet_below {P : Program} {f : FuncId} {args : Array Value} {n : Nat} {w : World} {p : BelW n w} {v : Value} (hn : n ≤ w.heap.size)
    (h : Calls P f args p.w' fun e w' => e = .returned v ∧ Below p.w'.heap.size p.w' w') : Calls P f args p.w' fun e w'' => e = .returned v ∧ ∃ q : BelW n w, w'' = q.w' :=
  h.mono fun _ w'' ⟨he, hb⟩ => ⟨he, ⟨w'', p.h.trans (hb.mono (Nat.le_trans hn p.h.size))⟩, rfl⟩
theorem BelW.out {n : Nat} {w x : World} (h : ∃ p : BelW n w, x = p.w') : Below n w x := by
  obtain ⟨p, rfl⟩ := h
  exact p.h
end Go.Proofs.Ytdcekimldgjliaa

/-
  Records (Item) put behind records of the call's own. By the verifier, by program.
-/
namespace Go.Proofs.Ytdcekimldgjliaa
open Go.RowKit

theorem it_app_run (w : World) (ty : TypeId) (base : Nat) (v : Value) (L : List It) (a0 : Option Addr) (c : Nat) (M : List It) (h : ItRow base w v L) (hM : ItsAt w a0 M) (hn : a0 = none → c = 0) (hl : L.length + M.length ≤ 2097152) (hb : base ≤ w.heap.size) :
    ∃ v' w', (Builtin.append_ #[50, 50] ty #[v, .slice a0 M.length c]).run Try.prog w = .ok v' w' ∧ ItRow base w' v' (L ++ M) ∧ Below base w w' ∧ w.grownBy w' v.ownBlock ∧ (v' = .slice none 0 0 → v = .slice none 0 0) := by
  obtain ⟨i0, hi0, hz0, hz1, hz2⟩ := info_parts itInfo
  cases a0 with
  | none =>
    obtain rfl := hM.empty
    obtain rfl := hn rfl
    refine ⟨v, w, run_append_owned_none (P := Try.prog) (w := w) base 50 ty 37 i0 3 Try.underlying50 hi0 v _ _ h, by simpa using h, Below.refl _ _, ⟨rfl, rfl, rfl, Nat.le_refl _, fun _ _ _ => rfl⟩, id⟩
  | some ad =>
    obtain ⟨v', w', h1, h2, h3, h4⟩ := run_append_own (P := Try.prog) w base 50 ty 37 i0 (.agg #[.int .i64 0, .int .i64 0, .int .i64 0]) 3 24 Try.underlying50 hi0 hz0 hz1 hz2 rfl (by decide) v _ _ h ad M.length c (itcells M) (itcells_length M)
      (by
        intro j u hj
        have hj' : j < M.length * 3 := by
          have := (List.getElem?_eq_some_iff.1 hj).1
          rwa [itcells_length] at this
        obtain ⟨k, i, rfl, hi⟩ : ∃ k i, j = k * 3 + i ∧ i < 3 := ⟨j / 3, j % 3, by omega, Nat.mod_lt _ (by omega)⟩
        have hk : k < M.length := by omega
        obtain ⟨b, off, e, _, c0, c1, c2⟩ := hM k hk
        cases e
        obtain ⟨e0, e1, e2⟩ := itcells_get M k hk
        rw [show (⟨b, off, none⟩ : Addr).add (k * 3 + i) = ⟨b, off + k * 3 + i, none⟩ by by_cases h0 : k * 3 + i = 0 <;> simp [Addr.add, h0, Nat.add_assoc]; omega]
        match i, hi with
        | 0, _ => rw [Nat.add_zero] at hj; rw [e0] at hj; rw [Nat.add_zero, c0]; exact hj
        | 1, _ => rw [e1] at hj; rw [c1]; exact hj
        | 2, _ => rw [e2] at hj; rw [c2]; exact hj)
      (itcells_one M) (by unfold maxLen; omega) (by omega) hb
    refine ⟨v', w', h1, ?_, (Below.refl base w).grown h3 hb (fun k hk => (h.lt k hk).1), h3, fun e => (h4.1 e).1⟩
    unfold ItRow
    rw [List.length_append, itcells_append]
    exact h2
/-- As a step of a walk. -/
theorem it_app {ops : Array Oper} {rest : List Oper} {o : Oper} {a : Act} {Q : Exit → Act → World → Prop} {w : World} (hgd : o.guard = none) (s x : Operand)
    (ho : o.op = .call { callee := .builtin .append, args := #[s, x], argTypes := #[50, 50] })
    (base : Nat) (v : Value) (L : List It) (a0 : Option Addr) (m c : Nat) (M : List It) (hm : M.length = m) (hs : a.eval s = v) (hx : a.eval x = .slice a0 m c) (hr : ItRow base w v L) (hM : ItsAt w a0 M) (hn : a0 = none → c = 0)
    (hl : L.length + M.length ≤ 2097152) (hb : base ≤ w.heap.size)
    (h : ∀ v' w', ItRow base w' v' (L ++ M) → Below base w w' → w.grownBy w' v.ownBlock → (v' = .slice none 0 0 → v = .slice none 0 0) → wpList Try.prog ops Q rest (a.put o.dst v') w') :
    wpList Try.prog ops Q (o :: rest) a w := by
  subst hm
  obtain ⟨v', w', hrun, h1, h2, h3, h4⟩ := it_app_run w o.type base v L a0 c M hr hM hn hl hb
  refine wpList_plain hgd fun _ hK => ?_
  unfold Oper.wp
  simp [execOp, ho, resolve, invoke, builtin, hs, hx, hrun, Result.andThen]
  exact hK _ _ (h v' w' h1 h2 h3 h4)
/-- As an operation of a region that draws. -/
theorem it_op_app {o : Oper} {a : Act} {K : Act → World → Prop} {Q : Exit → Act → World → Prop} {w : World} (s x : Operand)
    (ho : o.op = .call { callee := .builtin .append, args := #[s, x], argTypes := #[50, 50] })
    (base : Nat) (v : Value) (L : List It) (a0 : Option Addr) (m c : Nat) (M : List It) (hm : M.length = m) (hs : a.eval s = v) (hx : a.eval x = .slice a0 m c) (hr : ItRow base w v L) (hM : ItsAt w a0 M) (hn : a0 = none → c = 0)
    (hl : L.length + M.length ≤ 2097152) (hb : base ≤ w.heap.size)
    (h : ∀ v' w', ItRow base w' v' (L ++ M) → Below base w w' → w.grownBy w' v.ownBlock → (v' = .slice none 0 0 → v = .slice none 0 0) → K (a.put o.dst v') w') : o.wp Try.prog a w K Q := by
  subst hm
  obtain ⟨v', w', hrun, h1, h2, h3, h4⟩ := it_app_run w o.type base v L a0 c M hr hM hn hl hb
  unfold Oper.wp
  simp [execOp, ho, resolve, invoke, builtin, hs, hx, hrun, Result.andThen]
  exact h v' w' h1 h2 h3 h4
/-- The empty list that was built. -/
theorem it_built (w : World) (base : Nat) (hb : base ≤ w.heap.size) : ItRow base (w.alloc (.cells #[] 37)) (.slice (some ⟨w.heap.size, 0, none⟩) 0 0) [] :=
  World.ownsRow_lit (size := 3) w #[] 0 hb (by unfold maxLen; omega) rfl
theorem it_built1 (w : World) (base : Nat) (r : It) (hb : base ≤ w.heap.size) : ItRow base (w.alloc (.cells #[.int .i64 r.id, .int .i64 r.size, .int .i64 r.tm] 37)) (.slice (some ⟨w.heap.size, 0, none⟩) 1 1) [r] :=
  World.ownsRow_lit (size := 3) w #[.int .i64 r.id, .int .i64 r.size, .int .i64 r.tm] 1 hb (by unfold maxLen; omega) rfl
theorem ItRow.none {base : Nat} {w : World} {a : Option Addr} {n cap : Nat} {l : List It} (h : ItRow base w (.slice a n cap) l) : a = .none → cap = 0 := by
  rintro rfl
  rcases h.2 with ⟨e, _⟩ | ⟨g, cap', cur, e, _⟩
  · cases e; rfl
  · cases e
theorem ItRow.some {base : Nat} {w : World} {v : Value} {l : List It} (h : ItRow base w v l) (hv : v ≠ .slice .none 0 0) : ∃ g cap, v = .slice (.some ⟨g, 0, .none⟩) l.length cap := by
  rcases h.2 with ⟨e, _⟩ | ⟨g, cap, cur, e, _⟩
  · exact absurd e hv
  · exact ⟨g, cap, e⟩
end Go.Proofs.Ytdcekimldgjliaa
