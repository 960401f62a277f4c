/-
  One number put behind a list of numbers, by the program. By the verifier.
-/
import Derived.Test.YtllmkolchgmjoaaM6IntOwn
import Derived.Test.YtllmkolchgmjoaaBoxed
import Derived.Laws.CopyRow
import Derived.Laws.IdiomCopy
import Derived.Laws.CopyOwn
import Derived.Laws.AppendOwn
namespace Go.Proofs.Ytllmkolchgmjoaa
open Go.RowKit

/-- A list of its own out of what an append lays. -/
theorem int_grown (w : World) (L : List Int) (y : Int) (cap : Nat) (z : Array Value) (hz : z.size = 1) (hge : L.length + 1 ≤ cap) (hcm : cap ≤ maxLen) :
    IRow w.heap.size (w.drew.alloc (.cells ((L.map (Value.int .i64)).toArray ++ #[Value.int .i64 y] ++ Builtin.zeroCells z (cap - (L.length + 1))) 2)) (.slice (some ⟨w.heap.size, 0, none⟩) (L.length + 1) cap) (L ++ [y]) := by
  have hlen : ((L ++ [y]).map (Value.int .i64)).length = (L.length + 1) * 1 := by simp
  unfold IRow
  rw [List.length_append, List.length_singleton]
  refine ⟨hlen, .inr ⟨w.heap.size, _, _, rfl, Nat.le_refl _, heap_alloc_new w.drew _, hge, hcm, ?_, ?_⟩⟩
  · simp only [Array.size_append, List.size_toArray, size_zeroCells, hz, List.length_map]
    show L.length + 1 + (cap - (L.length + 1)) * 1 = cap * 1
    omega
  · simp only [Array.toList_append]
    rw [← hlen, List.map_append]
    exact List.take_left
theorem int_app_full (w : World) (ty : TypeId) (a : Option Addr) (L : List Int) (y : Int) (h : IntsAt w a L) (hl : L.length ≤ 1048576) :
    ∃ v' w', (Builtin.append_ #[34, 34] ty #[.slice a L.length L.length, .slice (some ⟨w.heap.size, 0, none⟩) 1 1]).run Try.prog (w.alloc (.cells #[.int .i64 y] 2)) = .ok v' w' ∧ IRow w.heap.size w' v' (L ++ [y]) ∧ Below w.heap.size w w' := by
  obtain ⟨i0, hi0, hz0, hz1, hz2⟩ := info_parts info2'
  obtain ⟨W, hW⟩ : ∃ W, W = w.alloc (.cells #[.int .i64 y] 2) := ⟨_, rfl⟩
  have hsz : W.heap.size = w.heap.size + 1 := by rw [hW]; simp
  have hnews : ∀ j v, ([Value.int .i64 y])[j]? = some v → W.cell? ((⟨w.heap.size, 0, none⟩ : Addr).add j) = some v := by
    intro j v hj
    match j, hj with
    | 0, hj =>
      simp at hj
      subst hj
      rw [hW]
      simp [Addr.add]
  have hb0 : Below w.heap.size w W := by rw [hW]; exact (Below.refl _ _).alloc (Nat.le_refl _) _
  have hA : IntsAt W a L := h.below hb0
  have bel : ∀ o, Below w.heap.size w (W.drew.alloc o) := fun o => hb0.drew.alloc (by show w.heap.size ≤ W.heap.size; omega) _
  rw [← hW]
  cases a with
  | none =>
    obtain rfl : L = [] := by
      cases L with
      | nil => rfl
      | cons x xs => obtain ⟨b, off, e, _⟩ := hA 0 (by simp); cases e
    have hr := run_append_nil (P := Try.prog) W 34 ty 2 i0 (.int .i64 0) Try.underlying34 hi0 hz0 ⟨w.heap.size, 0, none⟩ 1 1 [Value.int .i64 y] (by rw [hz1]; rfl) hnews (by omega) (by omega) (by rw [hz2]; omega)
    refine ⟨_, _, hr, ?_, bel _⟩
    have hge := grownCap_ge W 1 0 2
    have hcm := grownCap_le_maxLen W 1 0 2 (by unfold maxLen; omega)
    have := int_grown W [] y (grownCap W 1 0 2) (Value.cells (.int .i64 0)) rfl hge hcm
    simp only [List.map_nil, Array.empty_append, List.length_nil, Nat.zero_add] at this
    exact IRow.mono this (by omega)
  | some ad =>
    have hr := run_append_grow (P := Try.prog) W 34 ty 2 i0 (.int .i64 0) Try.underlying34 hi0 hz0 ad L.length L.length (L.map (Value.int .i64)) (by rw [hz1]; simp) hA.src ⟨w.heap.size, 0, none⟩ 1 1 [Value.int .i64 y] (by rw [hz1]; rfl) hnews (by omega) (by omega) (growslice_fits (by omega) (by rw [hz2]; omega))
    refine ⟨_, _, hr, ?_, bel _⟩
    exact IRow.mono (int_grown W L y _ _ rfl (grownCap_ge W _ _ _) (grownCap_le_maxLen W _ _ _ (by unfold maxLen; omega))) (by omega)
theorem int_row_full {ops : Array Oper} {rest : List Oper} {o : Oper} {a : Act} {Q : Exit → Act → World → Prop} {w : World} (hgd : o.guard = none) (s x : Operand)
    (ho : o.op = .call { callee := .builtin .append, args := #[s, x], argTypes := #[34, 34] })
    (a0 : Option Addr) (L : List Int) (n : Nat) (hL : L.length = n) (y : Int) (hs : a.eval s = .slice a0 n n) (hM : IntsAt w a0 L) {m : Nat} (hx : a.eval x = .slice (some ⟨m, 0, none⟩) 1 1) (hm : m = w.heap.size)
    (hlen : L.length ≤ 1048576)
    (h : ∀ v' w', IRow w.heap.size w' v' (L ++ [y]) → Below w.heap.size w w' → wpList Try.prog ops Q rest (a.put o.dst v') w') :
    wpList Try.prog ops Q (o :: rest) a (w.alloc (.cells #[.int .i64 y] 2)) := by
  subst hm
  subst hL
  refine wpList_plain hgd fun K hK => ?_
  obtain ⟨v', w', hrun, h1, h2⟩ := int_app_full w o.type a0 L y hM hlen
  unfold Oper.wp
  simp [execOp, ho, resolve, invoke, builtin, hs, hx, hrun, Result.andThen]
  exact hK _ _ (h v' w' h1 h2)

set_option maxHeartbeats 3200000 in
set_option maxRecDepth 100000 in
theorem implLastN (a : Option Addr) (c : Nat) (L : List Int) (y : Int) (w : World) (hT : L.length ≤ 1048576) (hc : L.length ≤ c) (hn : a = none → c = 0) (h : Hid (IntsAt w a L)) :
    Calls Try.prog 76 #[.slice a L.length c, .int .i64 y] w fun e w' => (∃ v, e = .returned v ∧ IRow w.heap.size w' v (L ++ [y])) ∧ Below w.heap.size w w' := by
  obtain ⟨n, hL⟩ : ∃ n, L.length = n := ⟨_, rfl⟩
  have Hmax : Hid (L.length ≤ 1048576) := hT
  rw [hL] at hT hc ⊢
  have HL : Hid (L.length = n) := hL
  clear hL
  cases a with
  | none =>
    obtain rfl := hn rfl
    obtain rfl : n = 0 := by omega
    clear hn
    go_enter Try.func76, Try.ntmps76
    go_wp2_with (refine int_row_full rfl (.tmp 10) (.tmp 12) rfl none L 0 HL.out y rfl h.out rfl rfl Hmax.out ?_; intro v' w2 q1 q2; have R : Hid (IRow w.heap.size w2 v' (L ++ [y]) ∧ Below w.heap.size w w2) := ⟨q1, q2⟩; clear q1 q2)
    go_ret
    exact ⟨⟨_, rfl, R.out.1⟩, R.out.2⟩
  | some ad =>
    clear hn
    have hc' : ((n : Nat) : Int) ≤ (c : Int) := by omega
    go_enter Try.func76, Try.ntmps76
    go_wp2_with (refine int_row_full rfl (.tmp 10) (.tmp 12) rfl (some ad) L n HL.out y rfl h.out rfl rfl Hmax.out ?_; intro v' w2 q1 q2; have R : Hid (IRow w.heap.size w2 v' (L ++ [y]) ∧ Below w.heap.size w w2) := ⟨q1, q2⟩; clear q1 q2)
    go_ret
    exact ⟨⟨_, rfl, R.out.1⟩, R.out.2⟩
end Go.Proofs.Ytllmkolchgmjoaa
