/-
  Routes put behind routes of the call's own; the library's Clone; the model's look for a net. By the verifier.
-/
import Derived.Test.YtilnjmpnhadidaaRtInfo
import Derived.Test.YtilnjmpnhadidaaQuiet
import Derived.Test.YtilnjmpnhadidaaRegAll
import Derived.Laws.AppendOwnNone
import Derived.Lib.SliceRun
namespace Go.Proofs.Ytilnjmpnhadidaa
open Go.RowKit

theorem app_run (w : World) (ty : TypeId) (base : Nat) (v : Value) (L : List Rt) (a0 : Option Addr) (c : Nat) (M : List Rt) (h : RRow base w v L) (hM : RtsAt w a0 M) (hn : a0 = none → c = 0) (hl : L.length + M.length ≤ 2097152) (hb : base ≤ w.heap.size) :
    ∃ v' w', (Builtin.append_ #[24, 24] ty #[v, .slice a0 M.length c]).run Try.prog w = .ok v' w' ∧ RRow base w' v' (L ++ M) ∧ Below base w w' ∧ w.grownBy w' v.ownBlock ∧ (v' = .slice none 0 0 → v = .slice none 0 0) := by
  obtain ⟨i0, hi0, hz0, hz1, hz2⟩ := info_parts infoR
  cases a0 with
  | none =>
    obtain rfl := hM.none
    obtain rfl := hn rfl
    refine ⟨v, w, run_append_owned_none (P := Try.prog) (w := w) base 24 ty 53 i0 3 Try.underlying24 hi0 v _ _ h, by simpa using h, Below.refl _ _, ⟨rfl, rfl, rfl, Nat.le_refl _, fun _ _ _ => rfl⟩, id⟩
  | some ad =>
    obtain ⟨v', w', h1, h2, h3, h4⟩ := run_append_own (P := Try.prog) w base 24 ty 53 i0 (.agg #[.int .i64 0, .int .i64 0, .int .i64 0]) 3 24 Try.underlying24 hi0 hz0 hz1 hz2 rfl (by decide) v _ _ h ad M.length c (rcells M) (rcells_length M)
      (by
        intro j u hj
        have hj' : j < M.length * 3 := by
          have := (List.getElem?_eq_some_iff.1 hj).1
          rwa [rcells_length] at this
        obtain ⟨k, i, rfl, hi⟩ : ∃ k i, j = k * 3 + i ∧ i < 3 := ⟨j / 3, j % 3, by omega, Nat.mod_lt _ (by omega)⟩
        have hk : k < M.length := by omega
        obtain ⟨b, off, e, _, c0, c1, c2⟩ := hM k hk
        cases e
        obtain ⟨e0, e1, e2⟩ := rcells_get M k hk
        rw [show (⟨b, off, none⟩ : Addr).add (k * 3 + i) = ⟨b, off + k * 3 + i, none⟩ by by_cases h0 : k * 3 + i = 0 <;> simp [Addr.add, h0, Nat.add_assoc]; omega]
        match i, hi with
        | 0, _ => rw [Nat.add_zero] at hj; rw [e0] at hj; rw [Nat.add_zero, c0]; exact hj
        | 1, _ => rw [e1] at hj; rw [c1]; exact hj
        | 2, _ => rw [e2] at hj; rw [c2]; exact hj)
      (rcells_one M) (by unfold maxLen; omega) (by omega) hb
    refine ⟨v', w', h1, ?_, (Below.refl base w).grown h3 hb (fun k hk => (h.lt k hk).1), h3, fun e => (h4.1 e).1⟩
    unfold RRow
    rw [List.length_append, rcells_append]
    exact h2
/-- As a step of a walk. -/
theorem row_app {ops : Array Oper} {rest : List Oper} {o : Oper} {a : Act} {Q : Exit → Act → World → Prop} {w : World} (hgd : o.guard = none) (s x : Operand)
    (ho : o.op = .call { callee := .builtin .append, args := #[s, x], argTypes := #[24, 24] })
    (base : Nat) (v : Value) (L : List Rt) (a0 : Option Addr) (m c : Nat) (M : List Rt) (hm : M.length = m) (hs : a.eval s = v) (hx : a.eval x = .slice a0 m c) (hr : RRow base w v L) (hM : RtsAt w a0 M) (hn : a0 = none → c = 0)
    (hl : L.length + M.length ≤ 2097152) (hb : base ≤ w.heap.size)
    (h : ∀ v' w', RRow base w' v' (L ++ M) → Below base w w' → w.grownBy w' v.ownBlock → (v' = .slice none 0 0 → v = .slice none 0 0) → wpList Try.prog ops Q rest (a.put o.dst v') w') :
    wpList Try.prog ops Q (o :: rest) a w := by
  subst hm
  obtain ⟨v', w', hrun, h1, h2, h3, h4⟩ := app_run w o.type base v L a0 c M hr hM hn hl hb
  refine wpList_plain hgd fun _ hK => ?_
  unfold Oper.wp
  simp [execOp, ho, resolve, invoke, builtin, hs, hx, hrun, Result.andThen]
  exact hK _ _ (h v' w' h1 h2 h3 h4)
/-- As an operation of a region that draws. -/
theorem op_app {o : Oper} {a : Act} {K : Act → World → Prop} {Q : Exit → Act → World → Prop} {w : World} (s x : Operand)
    (ho : o.op = .call { callee := .builtin .append, args := #[s, x], argTypes := #[24, 24] })
    (base : Nat) (v : Value) (L : List Rt) (a0 : Option Addr) (m c : Nat) (M : List Rt) (hm : M.length = m) (hs : a.eval s = v) (hx : a.eval x = .slice a0 m c) (hr : RRow base w v L) (hM : RtsAt w a0 M) (hn : a0 = none → c = 0)
    (hl : L.length + M.length ≤ 2097152) (hb : base ≤ w.heap.size)
    (h : ∀ v' w', RRow base w' v' (L ++ M) → Below base w w' → w.grownBy w' v.ownBlock → (v' = .slice none 0 0 → v = .slice none 0 0) → K (a.put o.dst v') w') : o.wp Try.prog a w K Q := by
  subst hm
  obtain ⟨v', w', hrun, h1, h2, h3, h4⟩ := app_run w o.type base v L a0 c M hr hM hn hl hb
  unfold Oper.wp
  simp [execOp, ho, resolve, invoke, builtin, hs, hx, hrun, Result.andThen]
  exact h v' w' h1 h2 h3 h4
/-- The empty list that was built. -/
theorem row_built (w : World) (base : Nat) (hb : base ≤ w.heap.size) : RRow base (w.alloc (.cells #[] 53)) (.slice (some ⟨w.heap.size, 0, none⟩) 0 0) [] :=
  World.ownsRow_lit (size := 3) w #[] 0 hb (by unfold maxLen; omega) rfl
theorem row_built1 (w : World) (base : Nat) (r : Rt) (hb : base ≤ w.heap.size) : RRow base (w.alloc (.cells #[.int .i64 r.net, .int .i64 r.bits, .int .i64 r.hop] 53)) (.slice (some ⟨w.heap.size, 0, none⟩) 1 1) [r] :=
  World.ownsRow_lit (size := 3) w #[.int .i64 r.net, .int .i64 r.bits, .int .i64 r.hop] 1 hb (by unfold maxLen; omega) rfl
theorem RRow.none {base : Nat} {w : World} {a : Option Addr} {n cap : Nat} {l : List Rt} (h : RRow base w (.slice a n cap) l) : a = .none → cap = 0 := by
  rintro rfl
  rcases h.2 with ⟨e, _⟩ | ⟨g, cap', cur, e, _⟩
  · cases e; rfl
  · cases e
theorem RRow.cap {base : Nat} {w : World} {a : Option Addr} {cap : Nat} {l : List Rt} (h : RRow base w (.slice a l.length cap) l) : l.length ≤ cap := by
  rcases h.2 with ⟨e, _⟩ | ⟨g, cap', cur, e, _, _, hc, _⟩
  · obtain ⟨_, h2, h3⟩ : a = .none ∧ l.length = 0 ∧ cap = 0 := by simpa using e
    omega
  · cases e; exact hc

theorem RRow.some {base : Nat} {w : World} {v : Value} {l : List Rt} (h : RRow base w v l) (hv : v ≠ .slice .none 0 0) : ∃ g cap, v = .slice (.some ⟨g, 0, .none⟩) l.length cap := by
  rcases h.2 with ⟨e, _⟩ | ⟨g, cap, cur, e, _⟩
  · exact absurd e hv
  · exact ⟨g, cap, e⟩

theorem implCloneR (a0 : Option Addr) (c : Nat) (l : List Rt) (w : World) (h : Hid (RtsAt w a0 l)) (hn : a0 = none → c = 0) (hl : l.length ≤ 1048576) :
    Calls Try.prog 54 #[.slice a0 l.length c] w fun e w' => ∃ v', e = .returned v' ∧ RRow w.heap.size w' v' l ∧ Below w.heap.size w w' := by
  have q : ∀ (w : World) (a : Option Addr) (n c n' c' : Nat), (binOp .eql 24 (.slice a n c) (.slice none n' c')).run Try.prog w = .ok (.bool a.isNone) w := fun w a n c n' c' => Lib.run_eql_slice_nil w _ _ a n c n' c' Try.underlying24
  cases a0 with
  | none =>
    obtain rfl := h.out.none
    go_enter Try.func54, Try.ntmps54
    go_wp2
    go_ret
    exact ⟨_, rfl, World.ownsRow_nil _ _ _ _, Below.refl _ _⟩
  | some ad =>
    obtain ⟨len, hlen⟩ : ∃ n, l.length = n := ⟨_, rfl⟩
    have Hlen : Hid (l.length = len) := hlen
    have hr : Hid (RRow w.heap.size (w.alloc (.cells #[] 53)) (.slice (some ⟨w.heap.size, 0, .none⟩) 0 0) []) := row_built w _ (Nat.le_refl _)
    rw [hlen] at hl ⊢
    clear hlen
    go_enter Try.func54, Try.ntmps54
    go_wp2_with (at_builtin; refine row_app rfl (.tmp 5) (.tmp 6) rfl w.heap.size _ [] _ _ _ l Hlen.out rfl rfl hr.out (h.out.alloc _) (by simp) (by rw [Hlen.out]; simp; omega) (by simp) ?_)
    intro v' w' r b _ _
    have H : Hid (RRow w.heap.size w' v' l ∧ Below w.heap.size w w') := ⟨r, ((Below.refl _ w).alloc (Nat.le_refl _) _).trans b⟩
    clear r b
    go_wp2
    go_ret
    exact ⟨_, rfl, H.out⟩

/-- Where the first with this net is. -/
def atN (l : List Rt) (net bits : Int) : Nat := l.findIdx fun r => decide (r.net = net ∧ r.bits = bits)
theorem atN_le (l : List Rt) (net bits : Int) : atN l net bits ≤ l.length := List.findIdx_le_length
theorem atN_miss {l : List Rt} {net bits : Int} {k : Nat} (hk : k < atN l net bits) : ¬ ((rtAt l k).net = net ∧ (rtAt l k).bits = bits) := by
  have hl : k < l.length := Nat.lt_of_lt_of_le hk (atN_le l net bits)
  have := List.not_of_lt_findIdx hk
  rw [rtAt_lt hl]
  simpa using this
theorem atN_hit {l : List Rt} {net bits : Int} (h : atN l net bits < l.length) : (rtAt l (atN l net bits)).net = net ∧ (rtAt l (atN l net bits)).bits = bits := by
  have := List.findIdx_getElem (p := fun r : Rt => decide (r.net = net ∧ r.bits = bits)) (xs := l) (w := h)
  rw [rtAt_lt h]
  exact of_decide_eq_true this

set_option maxHeartbeats 800000 in
theorem specAt (a : Option Addr) (cap : Nat) (l : List Rt) (net bits : Int) (w : World) (hT : l.length ≤ 1048576) (h : Hid (RtsAt w a l)) :
    Calls Try.prog 75 #[.slice a l.length cap, .int .i64 net, .int .i64 bits] w fun e w' => e = .returned (.int .i64 (if atN l net bits < l.length then (atN l net bits : Int) else -1)) ∧ w' = w := by
  obtain ⟨len, hlen⟩ : ∃ n, l.length = n := ⟨_, rfl⟩
  have Hlen : Hid (l.length = len) := hlen
  obtain ⟨N, hN⟩ : ∃ n, atN l net bits = n := ⟨_, rfl⟩
  have HN : Hid (atN l net bits = N) := hN
  have hNl : N ≤ len := by rw [← hN, ← hlen]; exact atN_le _ _ _
  rw [hlen] at hT ⊢
  rw [hN]
  clear hlen hN
  obtain ⟨z, hz⟩ : ∃ z : Int, z = if N < len then (N : Int) else -1 := ⟨_, rfl⟩
  rw [← hz]
  have Hz : Hid _ := hz
  clear hz
  go_enter Try.func75, Try.ntmps75
  go_wp2
  go_loop [7] (fun i => ∃ k : Nat, k ≤ N ∧ i = .int .i64 k) (fun i => len - (intOf i).toNat)
  case atStart => exact ⟨0, Nat.zero_le _, rfl⟩
  case round =>
    obtain ⟨k, hk, rfl⟩ := hrel
    by_cases hlt : k < len
    · obtain ⟨b1, o1, ha1, hb1, c0, c1, c2⟩ := h.out k (by rw [Hlen.out]; exact hlt)
      subst ha1
      have hlt' : (k : Int) < (len : Int) := by omega
      by_cases hkN : k = N
      · have hh := atN_hit (l := l) (net := net) (bits := bits) (by rw [HN.out, Hlen.out]; omega)
        rw [HN.out, ← hkN] at hh
        have hz : z = (k : Int) := by rw [Hz.out, if_pos (by omega), hkN]
        subst hz
        rw [hh.1] at c0
        rw [hh.2] at c1
        clear hh c2 Hz hkN
        go_wp2
        go_ret
        exact ⟨rfl, rfl⟩
      · have hm := atN_miss (l := l) (net := net) (bits := bits) (k := k) (by rw [HN.out]; omega)
        generalize rtAt l k = r at c0 c1 c2 hm
        by_cases hn : r.net = net
        · have hb2 : (r.bits == bits) = false := by rw [beq_eq_false_iff_ne]; exact fun e => hm ⟨hn, e⟩
          rw [hn] at c0
          clear hm hn
          go_wp2
          go_round
          case rel => exact ⟨k + 1, by omega, by go_num⟩
          case measure => simp [intOf]; omega
        · have hn2 : (r.net == net) = false := by rw [beq_eq_false_iff_ne]; exact hn
          clear hm hn
          go_wp2
          go_round
          case rel => exact ⟨k + 1, by omega, by go_num⟩
          case measure => simp [intOf]; omega
    · have hz : z = -1 := by rw [Hz.out, if_neg (by omega)]
      subst hz
      clear Hz
      go_wp2
      go_ret
      exact ⟨rfl, rfl⟩
end Go.Proofs.Ytilnjmpnhadidaa
