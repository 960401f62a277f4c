import Derived.Deep.QuietTactic
import Derived.Below
import Derived.Test.YtlffnpjnmimnlaaRuPlain
import Derived.Laws.AppendOwnNone
import Derived.Lib.SliceRun
import Derived.WalkKit
import Derived.WalkSpells
import Derived.WalkLawsBesides
import Derived.Handy
import Derived.Test.YtlffnpjnmimnlaaMRt
import Derived.Test.YtlffnpjnmimnlaaRegInv
import Derived.Test.YtlffnpjnmimnlaaRuDrawR
import Derived.BigQuiet
/-
  A region that draws its order and only reads, whose callees lay blocks of their own: walked once, in the class of the worlds in which all that lay lies. By the verifier.
-/
namespace Go.Proofs.Ytlffnpjnmimnlaa
open Go.RowKit

/-- A world in which all that lay lies. -/
structure BelW (n : Nat) (w : World) where
  w' : World
  h : Below n w w'
theorem region_below {P : Program} {id : Nat} {Q : Exit → Act → World → Prop} {a : Act} {w : World} {l : List Oper} (n : Nat) (hm : P.follows .mixedOrders = true) (hB : Region.lexB .any l.toArray = true)
    (h : wpQuiet P l.toArray (fun x => ∃ p : BelW n w, x = p.w') (fun a' => ∀ x, (∃ p : BelW n w, x = p.w') → Q .normal a' x) l a) : (Code.region id l.toArray true).wp P Q a w :=
  wp_region_quiet (C := fun x => ∃ p : BelW n w, x = p.w') hm hB ⟨⟨w.drew, (Below.refl _ _).drew⟩, rfl⟩ (by simpa using h)
theorem quiet_below {P : Program} {f : FuncId} {args : Array Value} {n : Nat} {w : World} {p : BelW n w} {v : Value} (hn : n ≤ w.heap.size)
    (h : Calls P f args p.w' fun e w' => e = .returned v ∧ Below p.w'.heap.size p.w' w') : Calls P f args p.w' fun e w'' => e = .returned v ∧ ∃ q : BelW n w, w'' = q.w' :=
  h.mono fun _ w'' ⟨he, hb⟩ => ⟨he, ⟨w'', p.h.trans (hb.mono (Nat.le_trans hn p.h.size))⟩, rfl⟩
theorem BelW.out {n : Nat} {w x : World} (h : ∃ p : BelW n w, x = p.w') : Below n w x := by
  obtain ⟨p, rfl⟩ := h
  exact p.h
end Go.Proofs.Ytlffnpjnmimnlaa

/-
  Records (Rule) put behind records of the call's own; the library's Clone. By the verifier, by program.
-/
namespace Go.Proofs.Ytlffnpjnmimnlaa
open Go.RowKit

theorem ru_app_run (w : World) (ty : TypeId) (base : Nat) (v : Value) (L : List Ru) (a0 : Option Addr) (c : Nat) (M : List Ru) (h : RuRow base w v L) (hM : RusAt w a0 M) (hn : a0 = none → c = 0) (hl : L.length + M.length ≤ 2097152) (hb : base ≤ w.heap.size) :
    ∃ v' w', (Builtin.append_ #[24, 24] ty #[v, .slice a0 M.length c]).run Try.prog w = .ok v' w' ∧ RuRow base w' v' (L ++ M) ∧ Below base w w' ∧ w.grownBy w' v.ownBlock ∧ (v' = .slice none 0 0 → v = .slice none 0 0) := by
  obtain ⟨i0, hi0, hz0, hz1, hz2⟩ := info_parts ruInfo
  cases a0 with
  | none =>
    obtain rfl := hM.empty
    obtain rfl := hn rfl
    refine ⟨v, w, run_append_owned_none (P := Try.prog) (w := w) base 24 ty 32 i0 10 Try.underlying24 hi0 v _ _ h, by simpa using h, Below.refl _ _, ⟨rfl, rfl, rfl, Nat.le_refl _, fun _ _ _ => rfl⟩, id⟩
  | some ad =>
    obtain ⟨v', w', h1, h2, h3, h4⟩ := run_append_own (P := Try.prog) w base 24 ty 32 i0 (.agg #[.int .i64 0, .int .i64 0, .int .i64 0, .int .i64 0, .int .i64 0, .int .i64 0, .int .i64 0, .int .i64 0, .int .i64 0, .int .i64 0]) 10 80 Try.underlying24 hi0 hz0 hz1 hz2 rfl (by decide) v _ _ h ad M.length c (rucells M) (rucells_length M)
      (by
        intro j u hj
        have hj' : j < M.length * 10 := by
          have := (List.getElem?_eq_some_iff.1 hj).1
          rwa [rucells_length] at this
        obtain ⟨k, i, rfl, hi⟩ : ∃ k i, j = k * 10 + i ∧ i < 10 := ⟨j / 10, j % 10, by omega, Nat.mod_lt _ (by omega)⟩
        have hk : k < M.length := by omega
        obtain ⟨b, off, e, _, c0, c1, c2, c3, c4, c5, c6, c7, c8, c9⟩ := hM k hk
        cases e
        obtain ⟨e0, e1, e2, e3, e4, e5, e6, e7, e8, e9⟩ := rucells_get M k hk
        rw [show (⟨b, off, none⟩ : Addr).add (k * 10 + i) = ⟨b, off + k * 10 + i, none⟩ by by_cases h0 : k * 10 + i = 0 <;> simp [Addr.add, h0, Nat.add_assoc]; omega]
        match i, hi with
        | 0, _ => rw [Nat.add_zero] at hj; rw [e0] at hj; rw [Nat.add_zero, c0]; exact hj
        | 1, _ => rw [e1] at hj; rw [c1]; exact hj
        | 2, _ => rw [e2] at hj; rw [c2]; exact hj
        | 3, _ => rw [e3] at hj; rw [c3]; exact hj
        | 4, _ => rw [e4] at hj; rw [c4]; exact hj
        | 5, _ => rw [e5] at hj; rw [c5]; exact hj
        | 6, _ => rw [e6] at hj; rw [c6]; exact hj
        | 7, _ => rw [e7] at hj; rw [c7]; exact hj
        | 8, _ => rw [e8] at hj; rw [c8]; exact hj
        | 9, _ => rw [e9] at hj; rw [c9]; exact hj)
      (rucells_one M) (by unfold maxLen; omega) (by omega) hb
    refine ⟨v', w', h1, ?_, (Below.refl base w).grown h3 hb (fun k hk => (h.lt k hk).1), h3, fun e => (h4.1 e).1⟩
    unfold RuRow
    rw [List.length_append, rucells_append]
    exact h2
/-- As a step of a walk. -/
theorem ru_app {ops : Array Oper} {rest : List Oper} {o : Oper} {a : Act} {Q : Exit → Act → World → Prop} {w : World} (hgd : o.guard = none) (s x : Operand)
    (ho : o.op = .call { callee := .builtin .append, args := #[s, x], argTypes := #[24, 24] })
    (base : Nat) (v : Value) (L : List Ru) (a0 : Option Addr) (m c : Nat) (M : List Ru) (hm : M.length = m) (hs : a.eval s = v) (hx : a.eval x = .slice a0 m c) (hr : RuRow base w v L) (hM : RusAt w a0 M) (hn : a0 = none → c = 0)
    (hl : L.length + M.length ≤ 2097152) (hb : base ≤ w.heap.size)
    (h : ∀ v' w', RuRow base w' v' (L ++ M) → Below base w w' → w.grownBy w' v.ownBlock → (v' = .slice none 0 0 → v = .slice none 0 0) → wpList Try.prog ops Q rest (a.put o.dst v') w') :
    wpList Try.prog ops Q (o :: rest) a w := by
  subst hm
  obtain ⟨v', w', hrun, h1, h2, h3, h4⟩ := ru_app_run w o.type base v L a0 c M hr hM hn hl hb
  refine wpList_plain hgd fun _ hK => ?_
  unfold Oper.wp
  simp [execOp, ho, resolve, invoke, builtin, hs, hx, hrun, Result.andThen]
  exact hK _ _ (h v' w' h1 h2 h3 h4)
/-- As an operation of a region that draws. -/
theorem ru_op_app {o : Oper} {a : Act} {K : Act → World → Prop} {Q : Exit → Act → World → Prop} {w : World} (s x : Operand)
    (ho : o.op = .call { callee := .builtin .append, args := #[s, x], argTypes := #[24, 24] })
    (base : Nat) (v : Value) (L : List Ru) (a0 : Option Addr) (m c : Nat) (M : List Ru) (hm : M.length = m) (hs : a.eval s = v) (hx : a.eval x = .slice a0 m c) (hr : RuRow base w v L) (hM : RusAt w a0 M) (hn : a0 = none → c = 0)
    (hl : L.length + M.length ≤ 2097152) (hb : base ≤ w.heap.size)
    (h : ∀ v' w', RuRow base w' v' (L ++ M) → Below base w w' → w.grownBy w' v.ownBlock → (v' = .slice none 0 0 → v = .slice none 0 0) → K (a.put o.dst v') w') : o.wp Try.prog a w K Q := by
  subst hm
  obtain ⟨v', w', hrun, h1, h2, h3, h4⟩ := ru_app_run w o.type base v L a0 c M hr hM hn hl hb
  unfold Oper.wp
  simp [execOp, ho, resolve, invoke, builtin, hs, hx, hrun, Result.andThen]
  exact h v' w' h1 h2 h3 h4
/-- The empty list that was built. -/
theorem ru_built (w : World) (base : Nat) (hb : base ≤ w.heap.size) : RuRow base (w.alloc (.cells #[] 32)) (.slice (some ⟨w.heap.size, 0, none⟩) 0 0) [] :=
  World.ownsRow_lit (size := 10) w #[] 0 hb (by unfold maxLen; omega) rfl
theorem ru_built1 (w : World) (base : Nat) (r : Ru) (hb : base ≤ w.heap.size) : RuRow base (w.alloc (.cells #[.int .i64 r.id, .int .i64 r.prio, .int .i64 r.snet, .int .i64 r.sbits, .int .i64 r.dnet, .int .i64 r.dbits, .int .i64 r.proto, .int .i64 r.low, .int .i64 r.high, .int .i64 r.cls] 32)) (.slice (some ⟨w.heap.size, 0, none⟩) 1 1) [r] :=
  World.ownsRow_lit (size := 10) w #[.int .i64 r.id, .int .i64 r.prio, .int .i64 r.snet, .int .i64 r.sbits, .int .i64 r.dnet, .int .i64 r.dbits, .int .i64 r.proto, .int .i64 r.low, .int .i64 r.high, .int .i64 r.cls] 1 hb (by unfold maxLen; omega) rfl
theorem RuRow.none {base : Nat} {w : World} {a : Option Addr} {n cap : Nat} {l : List Ru} (h : RuRow base w (.slice a n cap) l) : a = .none → cap = 0 := by
  rintro rfl
  rcases h.2 with ⟨e, _⟩ | ⟨g, cap', cur, e, _⟩
  · cases e; rfl
  · cases e
theorem RuRow.some {base : Nat} {w : World} {v : Value} {l : List Ru} (h : RuRow base w v l) (hv : v ≠ .slice .none 0 0) : ∃ g cap, v = .slice (.some ⟨g, 0, .none⟩) l.length cap := by
  rcases h.2 with ⟨e, _⟩ | ⟨g, cap, cur, e, _⟩
  · exact absurd e hv
  · exact ⟨g, cap, e⟩

theorem implCloneRu (a0 : Option Addr) (c : Nat) (l : List Ru) (w : World) (h : Hid (RusAt w a0 l)) (hn : a0 = none → c = 0) (hl : l.length ≤ 1048576) :
    Calls Try.prog 35 #[.slice a0 l.length c] w fun e w' => ∃ v', e = .returned v' ∧ RuRow w.heap.size w' v' l ∧ Below w.heap.size w w' := by
  have q : ∀ (w : World) (a : Option Addr) (n c n' c' : Nat), (binOp .eql 24 (.slice a n c) (.slice none n' c')).run Try.prog w = .ok (.bool a.isNone) w := fun w a n c n' c' => Lib.run_eql_slice_nil w _ _ a n c n' c' Try.underlying24
  cases a0 with
  | none =>
    obtain rfl := h.out.empty
    go_enter Try.func35, Try.ntmps35
    go_wp2
    go_ret
    exact ⟨_, rfl, World.ownsRow_nil _ _ _ _, Below.refl _ _⟩
  | some ad =>
    obtain ⟨len, hlen⟩ : ∃ n, l.length = n := ⟨_, rfl⟩
    have Hlen : Hid (l.length = len) := hlen
    have hr : Hid (RuRow w.heap.size (w.alloc (.cells #[] 32)) (.slice (some ⟨w.heap.size, 0, .none⟩) 0 0) []) := ru_built w _ (Nat.le_refl _)
    rw [hlen] at hl ⊢
    clear hlen
    go_enter Try.func35, Try.ntmps35
    go_wp2_with (at_builtin; refine ru_app rfl (.tmp 5) (.tmp 6) rfl w.heap.size _ [] _ _ _ l Hlen.out rfl rfl hr.out (h.out.alloc _) (by simp) (by rw [Hlen.out]; simp; omega) (by simp) ?_)
    intro v' w' r b _ _
    have H : Hid (RuRow w.heap.size w' v' l ∧ Below w.heap.size w w') := ⟨r, ((Below.refl _ w).alloc (Nat.le_refl _) _).trans b⟩
    clear r b
    go_wp2
    go_ret
    exact ⟨_, rfl, H.out⟩
end Go.Proofs.Ytlffnpjnmimnlaa

/-
  Parts of lists of rules. By the verifier.
-/
namespace Go.Proofs.Ytlffnpjnmimnlaa
open Go.RowKit

theorem rus_take {w : World} {a : Option Addr} {l : List Ru} (h : RusAt w a l) (k : Nat) : RusAt w a (l.take k) := by
  intro i hi
  have hi' : i < l.length := by simp at hi; omega
  have hk : i < k := by simp at hi; omega
  obtain ⟨b, off, e, hb, c⟩ := h i hi'
  have er : ruAt (l.take k) i = ruAt l i := by simp [ruAt, hk]
  rw [er]
  exact ⟨b, off, e, hb, c⟩
theorem rus_drop {w : World} {b off : Nat} {l : List Ru} (h : RusAt w (some ⟨b, off, none⟩) l) (k : Nat) : RusAt w (some ⟨b, off + k * 10, none⟩) (l.drop k) := by
  intro i hi
  have hi' : k + i < l.length := by simp at hi; omega
  obtain ⟨b', off', e, hb, c⟩ := h (k + i) hi'
  cases e
  have er : ruAt (l.drop k) i = ruAt l (k + i) := by simp [ruAt]
  rw [er]
  refine ⟨b, off + k * 10, rfl, hb, ?_⟩
  rw [show off + k * 10 + i * 10 = off + (k + i) * 10 by omega]
  exact c
end Go.Proofs.Ytlffnpjnmimnlaa

/-
  Right rules as plain data, and the model's way to tell one. By the verifier.
-/
namespace Go.Proofs.Ytlffnpjnmimnlaa
open Go.RowKit

/-- A right rule. -/
def Ru.ok (r : Ru) : Bool := inB 1 999 r.id && (inB 0 99 r.prio && (netB r.snet r.sbits && (netB r.dnet r.dbits && (inB (-1) 255 r.proto && (inB 0 65535 r.high && (inB 0 r.high r.low && inB 0 15 r.cls))))))

set_option maxHeartbeats 3200000 in
set_option maxRecDepth 100000 in
theorem specRule (r : Ru) (w : World) :
    Calls Try.prog 43 #[r.val] w fun e w' => e = .returned (.bool r.ok) ∧ w' = w.alloc (.cells r.cells.toArray 32) := by
  have Hok : Hid (r.ok = (inB 1 999 r.id && (inB 0 99 r.prio && (netB r.snet r.sbits && (netB r.dnet r.dbits && (inB (-1) 255 r.proto && (inB 0 65535 r.high && (inB 0 r.high r.low && inB 0 15 r.cls)))))))) := rfl
  obtain ⟨i, p, sn, sb, dn, db, pr, lo, hi, cl⟩ := r
  generalize Ru.ok _ = ok at Hok ⊢
  simp only [Ru.val, Ru.cells] at Hok ⊢
  have A1 := fun w => specIn i 1 999 w
  have A2 := fun w => specIn p 0 99 w
  have A3 := fun w => specNet sn sb w
  have A4 := fun w => specNet dn db w
  have A5 := fun w => specIn pr (-1) 255 w
  have A6 := fun w => specIn hi 0 65535 w
  have A7 := fun w => specIn lo 0 hi w
  have A8 := fun w => specIn cl 0 15 w
  generalize inB 1 999 i = b1 at A1 Hok
  generalize inB 0 99 p = b2 at A2 Hok
  generalize netB sn sb = b3 at A3 Hok
  generalize netB dn db = b4 at A4 Hok
  generalize inB (-1) 255 pr = b5 at A5 Hok
  generalize inB 0 65535 hi = b6 at A6 Hok
  generalize inB 0 hi lo = b7 at A7 Hok
  generalize inB 0 15 cl = b8 at A8 Hok
  have A1' : Hid _ := A1
  have A2' : Hid _ := A2
  have A3' : Hid _ := A3
  have A4' : Hid _ := A4
  have A5' : Hid _ := A5
  have A6' : Hid _ := A6
  have A7' : Hid _ := A7
  have A8' : Hid _ := A8
  clear A1 A2 A3 A4 A5 A6 A7 A8
  go_enter Try.func43, Try.ntmps43
  go_wp2_with fail
  refine (A1'.out _).mono ?_
  rintro e w' ⟨rfl, rfl⟩
  cases b1
  · go_wp2
    go_ret
    exact ⟨ret_bool (by rw [Hok.out]; rfl), rfl⟩
  go_wp2_with fail
  refine (A2'.out _).mono ?_
  rintro e w' ⟨rfl, rfl⟩
  cases b2
  · go_wp2
    go_ret
    exact ⟨ret_bool (by rw [Hok.out]; rfl), rfl⟩
  go_wp2_with fail
  refine (A3'.out _).mono ?_
  rintro e w' ⟨rfl, rfl⟩
  cases b3
  · go_wp2
    go_ret
    exact ⟨ret_bool (by rw [Hok.out]; rfl), rfl⟩
  go_wp2_with fail
  refine (A4'.out _).mono ?_
  rintro e w' ⟨rfl, rfl⟩
  cases b4
  · go_wp2
    go_ret
    exact ⟨ret_bool (by rw [Hok.out]; rfl), rfl⟩
  go_wp2_with fail
  refine (A5'.out _).mono ?_
  rintro e w' ⟨rfl, rfl⟩
  cases b5
  · go_wp2
    go_ret
    exact ⟨ret_bool (by rw [Hok.out]; rfl), rfl⟩
  go_wp2_with fail
  refine (A6'.out _).mono ?_
  rintro e w' ⟨rfl, rfl⟩
  cases b6
  · go_wp2
    go_ret
    exact ⟨ret_bool (by rw [Hok.out]; rfl), rfl⟩
  go_wp2_with fail
  refine (A7'.out _).mono ?_
  rintro e w' ⟨rfl, rfl⟩
  cases b7
  · go_wp2
    go_ret
    exact ⟨ret_bool (by rw [Hok.out]; rfl), rfl⟩
  go_wp2_with fail
  refine (A8'.out _).mono ?_
  rintro e w' ⟨rfl, rfl⟩
  go_wp2
  go_ret
  exact ⟨ret_bool (by rw [Hok.out]; rfl), rfl⟩
end Go.Proofs.Ytlffnpjnmimnlaa

/-
  A region that draws its order and writes: each operation yields a value of which something is known until it is used up. By the verifier.
-/
namespace Go.Proofs.Ytlffnpjnmimnlaa
open Go.RowKit

/-- What an operation waits for. -/
def waits (ops : Array Oper) (j : Nat) : List Nat := ((ops[j]?).map fun o => (o.after.toList.filter fun e => Region.binds .any e).map (·.on)).getD []
/-- Does j wait for i, by however many steps? -/
def reachN (ops : Array Oper) : Nat → Nat → Nat → Bool
  | 0, _, _ => false
  | n + 1, i, j => (waits ops j).any fun k => decide (k = i) || reachN ops n i k
def reaches (ops : Array Oper) (i j : Nat) : Bool := reachN ops ops.size i j
/-- What has come up came up behind what it waits for. -/
def ClosedL (ops : Array Oper) (L : Array Bool) : Prop := ∀ j k, L.getD j false = true → k ∈ waits ops j → L.getD k false = true
theorem reachN_listed {ops : Array Oper} {L : Array Bool} (hc : ClosedL ops L) : ∀ n i j, L.getD j false = true → reachN ops n i j = true → L.getD i false = true := by
  intro n
  induction n with
  | zero => intro i j _ h; cases h
  | succ n ih =>
    intro i j hj h
    unfold reachN at h
    rw [List.any_eq_true] at h
    obtain ⟨k, hk, h⟩ := h
    rw [Bool.or_eq_true, decide_eq_true_iff] at h
    have hkl := hc j k hj hk
    rcases h with rfl | h
    · exact hkl
    · exact ih i k hkl h
theorem reachN_ready {ops : Array Oper} {L : Array Bool} (hc : ClosedL ops L) {i : Nat} (hr : ∀ k, k ∈ waits ops i → L.getD k false = true) : ∀ n u, reachN ops n u i = true → L.getD u false = true := by
  intro n u h
  cases n with
  | zero => cases h
  | succ n =>
    unfold reachN at h
    rw [List.any_eq_true] at h
    obtain ⟨k, hk, h⟩ := h
    rw [Bool.or_eq_true, decide_eq_true_iff] at h
    have hkl := hr k hk
    rcases h with rfl | h
    · exact hkl
    · exact reachN_listed hc n u k hkl h
/-- All operations have a place of their own each. -/
def dstAll (ops : Array Oper) (size : Nat) : Bool := (List.range ops.size).all fun i => match dstAt ops i with
  | some d => decide (d < size) && (List.range ops.size).all fun j => decide (i = j) || !decide (dstAt ops j = some d)
  | none => false
theorem dst_all {ops : Array Oper} {N i : Nat} (h : dstAll ops N = true) (hi : i < ops.size) : ∃ d, dstAt ops i = some d ∧ d < N ∧ ∀ j, j < ops.size → i ≠ j → dstAt ops j ≠ some d := by
  unfold dstAll at h
  rw [List.all_eq_true] at h
  have h1 := h i (List.mem_range.2 (by omega))
  cases hd : dstAt ops i with
  | none => rw [hd] at h1; cases h1
  | some d =>
    rw [hd] at h1
    simp only [Bool.and_eq_true, decide_eq_true_eq, List.all_eq_true, List.mem_range, Bool.or_eq_true, Bool.not_eq_true', decide_eq_false_iff_not] at h1
    refine ⟨d, rfl, h1.1, fun j hj hne => ?_⟩
    rcases h1.2 j (by omega) with h2 | h2
    · exact absurd h2 hne
    · exact h2
/-- What no operation writes is as it was. -/
structure KeptA (ops : Array Oper) (a0 a : Act) : Prop where
  defers : a.defers = a0.defers
  size : a.tmps.size = a0.tmps.size
  same : ∀ k, (∀ i, i < ops.size → dstAt ops i ≠ some k) → a.tmps.getD k undef = a0.tmps.getD k undef
/-- No operation writes it. -/
def notDstA (ops : Array Oper) (k : Nat) : Bool := (List.range ops.size).all fun i => !decide (dstAt ops i = some k)
theorem KeptA.slot {ops : Array Oper} {a0 a : Act} (h : KeptA ops a0 a) (k : Nat) (hk : notDstA ops k = true) : a.tmps.getD k undef = a0.tmps.getD k undef := by
  refine h.same k fun i hi e => ?_
  unfold notDstA at hk
  rw [List.all_eq_true] at hk
  have := hk i (List.mem_range.2 hi)
  rw [e] at this
  simp at this

theorem region_all {P : Program} {id : Nat} {ops : Array Oper} {Q : Exit → Act → World → Prop} {a0 : Act} {w0 : World} (hm : P.follows .mixedOrders = true) (hb : edgesBack ops = true) (hdst : dstAll ops a0.tmps.size = true)
    (use : Nat → Nat) (I : World → Prop) (R : Nat → World → World → Prop) (Pr : Nat → World → Value → Prop)
    (hR : ∀ i j w w' v, i < ops.size → j < ops.size → i ≠ j → use j ≠ i → reaches ops i j = false → reaches ops (use j) i = false → Pr j w v → R i w w' → Pr j w' v) (h0 : I w0.drew)
    (hstep : ∀ i o, i < ops.size → ops[i]? = some o → ∀ a w, KeptA ops a0 a → I w → (∀ j d, j ∈ waits ops i → use j = i ∨ ops.size ≤ use j → dstAt ops j = some d → Pr j w (a.tmps.getD d undef)) → o.guard = none ∧ o.wp P a w (fun a' w' => ∃ v, a' = a.put o.dst v ∧ R i w w' ∧ I w' ∧ Pr i w' v) Q)
    (hend : ∀ a w, KeptA ops a0 a → I w → (∀ i d, ops.size ≤ use i → dstAt ops i = some d → Pr i w (a.tmps.getD d undef)) → Q .normal a w) :
    (Code.region id ops true).wp P Q a0 w0 := by
  have nolist : ∀ {L : Array Bool} {k : Nat}, L.size = ops.size → ops.size ≤ k → L.getD k false = false := by
    intro L k hs hk
    simp [Array.getD, show ¬ k < L.size by omega]
  have dlt : ∀ {i d}, dstAt ops i = some d → i < ops.size := by
    intro i d h
    apply Classical.byContradiction
    intro hn
    unfold dstAt at h
    rw [Array.getElem?_eq_none (by omega)] at h
    cases h
  refine region_inv hm (fun L a w => L.size = ops.size ∧ ClosedL ops L ∧ KeptA ops a0 a ∧ I w ∧ ∀ i d, L.getD i false = true → L.getD (use i) false = false → dstAt ops i = some d → Pr i w (a.tmps.getD d undef)) hb ⟨by simp, ?_, ⟨rfl, rfl, fun _ _ => rfl⟩, h0, ?_⟩ ?_ ?_
  · intro j k hj
    simp [Array.getD] at hj
  · intro i d hi
    simp [Array.getD] at hi
  · rintro L a w i o ⟨_, hc, hk, hI, hp⟩ hs ho hi hd
    have hlt : i < ops.size := (Array.getElem?_eq_some_iff.1 ho).1
    have hif : L.getD i false = false := by rw [getD_eq (by omega)] at hi ⊢; exact hi
    have hw : ∀ k, k ∈ waits ops i → L.getD k false = true := by
      intro k hk2
      unfold waits at hk2
      rw [ho] at hk2
      simp only [Option.map_some, Option.getD_some, List.mem_map, List.mem_filter] at hk2
      obtain ⟨e, ⟨he, hbi⟩, rfl⟩ := hk2
      exact hd e he hbi
    obtain ⟨hg, hwp⟩ := hstep i o hlt ho a w hk hI (fun j d hj hu hdj => hp j d (hw j hj) (by
      rcases hu with hu | hu
      · rw [hu]; exact hif
      · exact nolist hs hu) hdj)
    refine wpOp_step ho fun K' hK => ?_
    rw [if_pos (by simp [Region.wanted, hg])]
    refine Oper.wp_mono hK (Oper.wp_mono ?_ hwp)
    rintro a' w' ⟨v, rfl, hr, hI', hv⟩
    obtain ⟨d, hd1, hd2, hd3⟩ := dst_all hdst hlt
    have hod : o.dst = some d := by unfold dstAt at hd1; rw [ho] at hd1; exact hd1
    rw [hod]
    refine ⟨by rw [Array.size_setIfInBounds]; exact hs, ?_, ⟨hk.defers, ?_, ?_⟩, hI', ?_⟩
    · intro j k hj hk2
      rw [listed_set (by omega)] at hj ⊢
      by_cases hki : k = i
      · rw [if_pos hki]
      rw [if_neg hki]
      by_cases hji : j = i
      · subst hji; exact hw k hk2
      · rw [if_neg hji] at hj
        exact hc j k hj hk2
    · show (a.tmps.setIfInBounds d v).size = _
      rw [Array.size_setIfInBounds]; exact hk.size
    · intro k hk2
      rw [put_getD _ _ _ _ (by rw [hk.size]; exact hd2), if_neg (fun e => hk2 i hlt (by rw [e]; exact hd1))]
      exact hk.same k hk2
    · intro j dj hlj huj hdj
      rw [put_getD _ _ _ _ (by rw [hk.size]; exact hd2)]
      rw [listed_set (by omega)] at hlj huj
      by_cases hij : j = i
      · subst hij
        rw [hd1] at hdj
        cases hdj
        rw [if_pos rfl]
        exact hv
      · rw [if_neg hij] at hlj
        have hui : use j ≠ i := by
          intro e
          rw [if_pos e] at huj
          cases huj
        rw [if_neg hui] at huj
        rw [if_neg (fun e => hd3 j (dlt hdj) (fun e2 => hij e2.symm) (by rw [hdj, e]))]
        refine hR i j w w' _ hlt (dlt hdj) (fun e => hij e.symm) hui ?_ ?_ (hp j dj hlj huj hdj) hr
        · cases hre : reaches ops i j with
          | false => rfl
          | true => rw [reachN_listed hc _ i j hlj hre] at hif; cases hif
        · cases hre : reaches ops (use j) i with
          | false => rfl
          | true => rw [reachN_ready hc hw _ _ hre] at huj; cases huj
  · rintro L a w ⟨_, _, hk, hI, hp⟩ hs hall
    refine hend a w hk hI fun i d hu hd => hp i d ?_ (nolist hs hu) hd
    have := hall i (dlt hd)
    rw [getD_eq (by rw [hs]; exact dlt hd)] at this ⊢
    exact this
end Go.Proofs.Ytlffnpjnmimnlaa

/-
  Behind a region that draws its order and writes: the activation, slot by slot. By the verifier.
-/
namespace Go.Proofs.Ytlffnpjnmimnlaa
open Go.RowKit

/-- The slots that stay, and those that do not. -/
def pickS : List Bool → List Value → (Nat → Value) → Nat → List Value
  | true :: ds, t :: ts, f, i => t :: pickS ds ts f (i + 1)
  | false :: ds, _ :: ts, f, i => f i :: pickS ds ts f (i + 1)
  | _, _, _, _ => []
theorem pickS_len : ∀ (ds : List Bool) (ts : List Value) (f : Nat → Value) (i : Nat), ds.length = ts.length → (pickS ds ts f i).length = ts.length
  | [], [], _, _, _ => rfl
  | true :: ds, t :: ts, f, i, h => by
    have := pickS_len ds ts f (i + 1) (by simpa using h)
    simp [pickS, this]
  | false :: ds, t :: ts, f, i, h => by
    have := pickS_len ds ts f (i + 1) (by simpa using h)
    simp [pickS, this]
  | [], _ :: _, _, _, h => by simp at h
  | _ :: _, [], _, _, h => by simp at h
theorem pickS_get : ∀ (ds : List Bool) (ts : List Value) (f : Nat → Value) (i j : Nat), ds.length = ts.length → j < ts.length → (pickS ds ts f i)[j]? = if ds[j]? = some true then ts[j]? else some (f (i + j))
  | [], [], _, _, _, _, h => by simp at h
  | true :: ds, t :: ts, f, i, 0, _, _ => by simp [pickS]
  | false :: ds, t :: ts, f, i, 0, _, _ => by simp [pickS]
  | true :: ds, t :: ts, f, i, j + 1, h, hj => by
    have := pickS_get ds ts f (i + 1) j (by simpa using h) (by simpa using hj)
    simp only [pickS, List.getElem?_cons_succ, this, show i + 1 + j = i + (j + 1) by omega]
  | false :: ds, t :: ts, f, i, j + 1, h, hj => by
    have := pickS_get ds ts f (i + 1) j (by simpa using h) (by simpa using hj)
    simp only [pickS, List.getElem?_cons_succ, this, show i + 1 + j = i + (j + 1) by omega]
  | [], _ :: _, _, _, _, h, _ => by simp at h
  | _ :: _, [], _, _, _, h, _ => by simp at h
theorem KeptA.pick {ops : Array Oper} {a0 a : Act} (h : KeptA ops a0 a) (ds : List Bool) (hd : (List.range a0.tmps.size).map (notDstA ops) = ds) :
    a = { tmps := (pickS ds a0.tmps.toList (fun k => a.tmps.getD k undef) 0).toArray, defers := a0.defers } := by
  obtain ⟨t, d⟩ := a
  have hdf : d = a0.defers := h.defers
  have hs : t.size = a0.tmps.size := h.size
  subst hdf
  have hl : ds.length = a0.tmps.toList.length := by rw [← hd]; simp
  congr 1
  apply Array.ext'
  apply List.ext_getElem?
  intro j
  by_cases hj : j < a0.tmps.size
  · rw [List.toList_toArray, pickS_get ds _ _ 0 j hl (by simpa using hj), ← hd]
    have e1 : ((List.range a0.tmps.size).map (notDstA ops))[j]? = some (notDstA ops j) := by simp [hj]
    rw [e1]
    by_cases hn : notDstA ops j = true
    · rw [if_pos (by rw [hn])]
      have := h.slot j hn
      simp only [Array.getElem?_toList]
      have e2 : t[j]? = some (t.getD j undef) := by simp [Array.getD, show j < t.size by omega]
      have e3 : a0.tmps[j]? = some (a0.tmps.getD j undef) := by simp [Array.getD, hj]
      rw [e2, e3]
      exact congrArg some this
    · rw [if_neg (by intro e; exact hn (by simpa using e))]
      simp only [Array.getElem?_toList, Nat.zero_add]
      simp [Array.getD, show j < t.size by omega]
  · rw [List.getElem?_eq_none (by simp; omega), List.getElem?_eq_none (by rw [List.toList_toArray, pickS_len _ _ _ _ hl]; simp; omega)]
/-- Whatever writes this slot waits for operation i. -/
def stillB (ops : Array Oper) (i k : Nat) : Bool := (List.range ops.size).all fun j => !decide (dstAt ops j = some k) || (reaches ops i j || decide (j = i))
theorem region_all2 {P : Program} {id : Nat} {ops : Array Oper} {Q : Exit → Act → World → Prop} {a0 : Act} {w0 : World} (hm : P.follows .mixedOrders = true) (hb : edgesBack ops = true) (hdst : dstAll ops a0.tmps.size = true)
    (use : Nat → Nat) (I : World → Prop) (R : Nat → World → World → Prop) (Pr : Nat → World → Value → Prop)
    (hR : ∀ i j w w' v, i < ops.size → j < ops.size → i ≠ j → use j ≠ i → reaches ops i j = false → reaches ops (use j) i = false → Pr j w v → R i w w' → Pr j w' v) (h0 : I w0.drew)
    (hstep : ∀ i o, i < ops.size → ops[i]? = some o → ∀ a w, KeptA ops a0 a → (∀ k, stillB ops i k = true → a.tmps.getD k undef = a0.tmps.getD k undef) → I w → (∀ j d, j ∈ waits ops i → use j = i ∨ ops.size ≤ use j → dstAt ops j = some d → Pr j w (a.tmps.getD d undef)) → o.guard = none ∧ o.wp P a w (fun a' w' => ∃ v, a' = a.put o.dst v ∧ R i w w' ∧ I w' ∧ Pr i w' v) Q)
    (hend : ∀ a w, KeptA ops a0 a → I w → (∀ i d, ops.size ≤ use i → dstAt ops i = some d → Pr i w (a.tmps.getD d undef)) → Q .normal a w) :
    (Code.region id ops true).wp P Q a0 w0 := by
  have nolist : ∀ {L : Array Bool} {k : Nat}, L.size = ops.size → ops.size ≤ k → L.getD k false = false := by
    intro L k hs hk
    simp [Array.getD, show ¬ k < L.size by omega]
  have dlt : ∀ {i d}, dstAt ops i = some d → i < ops.size := by
    intro i d h
    apply Classical.byContradiction
    intro hn
    unfold dstAt at h
    rw [Array.getElem?_eq_none (by omega)] at h
    cases h
  refine region_inv hm (fun L a w => L.size = ops.size ∧ ClosedL ops L ∧ KeptA ops a0 a ∧ (∀ k, (∀ j, L.getD j false = true → dstAt ops j ≠ some k) → a.tmps.getD k undef = a0.tmps.getD k undef) ∧ I w ∧ ∀ i d, L.getD i false = true → L.getD (use i) false = false → dstAt ops i = some d → Pr i w (a.tmps.getD d undef)) hb ⟨by simp, ?_, ⟨rfl, rfl, fun _ _ => rfl⟩, fun _ _ => rfl, h0, ?_⟩ ?_ ?_
  · intro j k hj
    simp [Array.getD] at hj
  · intro i d hi
    simp [Array.getD] at hi
  · rintro L a w i o ⟨_, hc, hk, hst, hI, hp⟩ hs ho hi hd
    have hlt : i < ops.size := (Array.getElem?_eq_some_iff.1 ho).1
    have hif : L.getD i false = false := by rw [getD_eq (by omega)] at hi ⊢; exact hi
    have hw : ∀ k, k ∈ waits ops i → L.getD k false = true := by
      intro k hk2
      unfold waits at hk2
      rw [ho] at hk2
      simp only [Option.map_some, Option.getD_some, List.mem_map, List.mem_filter] at hk2
      obtain ⟨e, ⟨he, hbi⟩, rfl⟩ := hk2
      exact hd e he hbi
    obtain ⟨hg, hwp⟩ := hstep i o hlt ho a w hk (fun k hk2 => hst k fun j hlj hdj => by
      unfold stillB at hk2
      rw [List.all_eq_true] at hk2
      have h3 := hk2 j (List.mem_range.2 (dlt hdj))
      rw [hdj] at h3
      simp only [decide_true, Bool.not_true, Bool.false_or, Bool.or_eq_true, decide_eq_true_eq] at h3
      rcases h3 with h3 | h3
      · rw [reachN_listed hc _ i j hlj h3] at hif; cases hif
      · rw [h3, hif] at hlj; cases hlj) hI (fun j d hj hu hdj => hp j d (hw j hj) (by
      rcases hu with hu | hu
      · rw [hu]; exact hif
      · exact nolist hs hu) hdj)
    refine wpOp_step ho fun K' hK => ?_
    rw [if_pos (by simp [Region.wanted, hg])]
    refine Oper.wp_mono hK (Oper.wp_mono ?_ hwp)
    rintro a' w' ⟨v, rfl, hr, hI', hv⟩
    obtain ⟨d, hd1, hd2, hd3⟩ := dst_all hdst hlt
    have hod : o.dst = some d := by unfold dstAt at hd1; rw [ho] at hd1; exact hd1
    rw [hod]
    refine ⟨by rw [Array.size_setIfInBounds]; exact hs, ?_, ⟨hk.defers, ?_, ?_⟩, ?_, hI', ?_⟩
    · intro j k hj hk2
      rw [listed_set (by omega)] at hj ⊢
      by_cases hki : k = i
      · rw [if_pos hki]
      rw [if_neg hki]
      by_cases hji : j = i
      · subst hji; exact hw k hk2
      · rw [if_neg hji] at hj
        exact hc j k hj hk2
    · show (a.tmps.setIfInBounds d v).size = _
      rw [Array.size_setIfInBounds]; exact hk.size
    · intro k hk2
      rw [put_getD _ _ _ _ (by rw [hk.size]; exact hd2), if_neg (fun e => hk2 i hlt (by rw [e]; exact hd1))]
      exact hk.same k hk2
    · intro k hk2
      rw [put_getD _ _ _ _ (by rw [hk.size]; exact hd2), if_neg (fun e => hk2 i (by rw [listed_set (by omega), if_pos rfl]) (by rw [e]; exact hd1))]
      refine hst k fun j hlj => hk2 j ?_
      rw [listed_set (by omega)]
      by_cases hji : j = i
      · rw [if_pos hji]
      · rw [if_neg hji]; exact hlj
    · intro j dj hlj huj hdj
      rw [put_getD _ _ _ _ (by rw [hk.size]; exact hd2)]
      rw [listed_set (by omega)] at hlj huj
      by_cases hij : j = i
      · subst hij
        rw [hd1] at hdj
        cases hdj
        rw [if_pos rfl]
        exact hv
      · rw [if_neg hij] at hlj
        have hui : use j ≠ i := by
          intro e
          rw [if_pos e] at huj
          cases huj
        rw [if_neg hui] at huj
        rw [if_neg (fun e => hd3 j (dlt hdj) (fun e2 => hij e2.symm) (by rw [hdj, e]))]
        refine hR i j w w' _ hlt (dlt hdj) (fun e => hij e.symm) hui ?_ ?_ (hp j dj hlj huj hdj) hr
        · cases hre : reaches ops i j with
          | false => rfl
          | true => rw [reachN_listed hc _ i j hlj hre] at hif; cases hif
        · cases hre : reaches ops (use j) i with
          | false => rfl
          | true => rw [reachN_ready hc hw _ _ hre] at huj; cases huj
  · rintro L a w ⟨_, _, hk, _, hI, hp⟩ hs hall
    refine hend a w hk hI fun i d hu hd => hp i d ?_ (nolist hs hu) hd
    have := hall i (dlt hd)
    rw [getD_eq (by rw [hs]; exact dlt hd)] at this ⊢
    exact this
end Go.Proofs.Ytlffnpjnmimnlaa

/-
  What is known of a rule put into a list by three appends, in whatever order. By the verifier, by program.
-/
namespace Go.Proofs.Ytlffnpjnmimnlaa
open Go.RowKit

def upPr (base : Nat) (W : World) (S : Value) (v2 : Value) (r : Ru) (l : List Ru) (k : Nat) : Nat → World → Value → Prop := fun i w v =>
  if i = 0 then RuRow base w v [] ∧ ∃ g0, v = .slice (some ⟨g0, 0, none⟩) 0 0 else if i = 1 then v = S else if i = 2 then v = .int .i64 (k : Int)
  else if i = 3 then ∃ a c, v = .slice a k c ∧ a ≠ none ∧ RusAt W a (l.take k) else if i = 4 then RuRow base w v (l.take k) ∧ v ≠ .slice none 0 0 else if i = 5 then v = r.val
  else if i = 6 then ∃ b, v = .slice (some ⟨b, 0, none⟩) 1 1 ∧ Boxed w b #[.int .i64 r.id, .int .i64 r.prio, .int .i64 r.snet, .int .i64 r.sbits, .int .i64 r.dnet, .int .i64 r.dbits, .int .i64 r.proto, .int .i64 r.low, .int .i64 r.high, .int .i64 r.cls] 32 else if i = 7 then RuRow base w v (l.take k ++ [r]) ∧ v ≠ .slice none 0 0
  else if i = 8 then v = v2 else RuRow base w v (l.take k ++ [r] ++ l.drop k) ∧ v ≠ .slice none 0 0
def upR (base : Nat) : Nat → World → World → Prop := fun i w w' => if i = 4 then ∀ k, k < w.heap.size → w.heap[k]? ≠ some (.cells #[] 32) → w'.heap[k]? = w.heap[k]? else if i = 7 ∨ i = 9 then Below base w w' else (w' = w ∨ ∃ o, w' = w.alloc o)
def upUse : Nat → Nat := fun j => if j = 0 then 4 else if j = 4 then 7 else if j = 6 then 7 else if j = 7 then 9 else 11
theorem rus_of_box {w : World} {b : Nat} {r : Ru} (h : Boxed w b #[.int .i64 r.id, .int .i64 r.prio, .int .i64 r.snet, .int .i64 r.sbits, .int .i64 r.dnet, .int .i64 r.dbits, .int .i64 r.proto, .int .i64 r.low, .int .i64 r.high, .int .i64 r.cls] 32) : RusAt w (some ⟨b, 0, none⟩) [r] := by
  intro k hk
  obtain rfl : k = 0 := by simpa using hk
  exact ⟨b, 0, rfl, h.under, h.cell 0 rfl, h.cell 1 rfl, h.cell 2 rfl, h.cell 3 rfl, h.cell 4 rfl, h.cell 5 rfl, h.cell 6 rfl, h.cell 7 rfl, h.cell 8 rfl, h.cell 9 rfl⟩
theorem ru_row_empty {base : Nat} {w : World} {g : Nat} (h : RuRow base w (.slice (some ⟨g, 0, none⟩) 0 0) []) : w.heap[g]? = some (.cells #[] 32) := by
  rcases h.2 with ⟨e, _⟩ | ⟨g', cap, cur, e, _, hg, _, _, hs, _⟩
  · cases e
  · cases e
    have hc : cur = #[] := Array.eq_empty_of_size_eq_zero (by simpa using hs)
    rw [hg, hc]
theorem no_so {p : Prop} {b : Bool} (h1 : b = false) (h2 : b = true) : p := by rw [h1] at h2; cases h2
/-- The call's own memory: the list that is drawn, the cursor. -/
structure DrLU (W : World) (bc : Nat) (ac : Option Addr) (len cap : Nat) (w : World) (v : Value) (L : List Ru) (wr : World) : Prop where
  row : RuRow w.heap.size wr v L
  cur : Cur W bc ac len cap wr
  kp : Keep bc w wr
  bl : bc < w.heap.size
theorem DrLU.draw {W : World} {bc : Nat} {ac : Option Addr} {len cap : Nat} {w : World} {v : Value} {L : List Ru} {wr wd : World} (h : DrLU W bc ac len cap w v L wr) (c : Cur W bc ac len cap wd) (k : Keep bc wr wd) : DrLU W bc ac len cap w v L wd := by
  have := h.bl
  exact ⟨h.row.carry fun i hi hl => k.block i (by have := h.row.lt i hi; omega) hl, c, h.kp.trans k, h.bl⟩
theorem DrLU.more {W : World} {bc : Nat} {ac : Option Addr} {len cap : Nat} {w : World} {v : Value} {L : List Ru} {wr : World} (h : DrLU W bc ac len cap w v L wr) (o : Obj) : DrLU W bc ac len cap w v L (wr.alloc o) :=
  h.draw (h.cur.alloc _) ((Keep.refl _ _).alloc _)
theorem DrLU.grow {W : World} {bc : Nat} {ac : Option Addr} {len cap : Nat} {w : World} {v : Value} {L : List Ru} {v' : Value} {L' : List Ru} {wr wd : World} (h : DrLU W bc ac len cap w v L wr) (g : Below w.heap.size wr wd) (r : RuRow w.heap.size wd v' L') : DrLU W bc ac len cap w v' L' wd :=
  ⟨r, h.cur.below h.bl g, ⟨Nat.le_trans h.kp.size g.size, fun k h1 h2 => (g.block k h2).trans (h.kp.block k h1 h2)⟩, h.bl⟩
theorem DrLU.below {W : World} {bc : Nat} {ac : Option Addr} {len cap : Nat} {w : World} {v : Value} {L : List Ru} {wr wd : World} (h : DrLU W bc ac len cap w v L wr) (g : Below wr.heap.size wr wd) : DrLU W bc ac len cap w v L wd :=
  h.grow (g.mono h.kp.size) (h.row.below (fun k hk => (h.row.lt k hk).2) g)
end Go.Proofs.Ytlffnpjnmimnlaa
