/-
  The walk of slices.Insert, one due into a list of the call's own that has no room. By the verifier.
-/
import Derived.Test.YtkocbfikcjgigaaGreatM18DuIns
import Derived.Shelf.RegionOpenPlain
namespace Go.Proofs.YtkocbfikcjgigaaGreat
open Go.RowKit

set_option maxHeartbeats 6400000 in
set_option maxRecDepth 100000 in
theorem implInsert (base g n K vb : Nat) (l : List Du) (d : Du) (w : World) (hn : l.length = n) (hK : K ≤ n) (hT : n ≤ 1048576) (hrow : DuRow base w (.slice (some ⟨g, 0, none⟩) n n) l) (hbx : Boxed w vb #[.int .i64 d.time, .int .i64 d.id] 33) (hb : base ≤ w.heap.size) :
    Calls Tryz.prog 35 #[.slice (some ⟨g, 0, none⟩) n n, .int .i64 (K : Int), .slice (some ⟨vb, 0, none⟩) 1 1] w fun e w' =>
      ∃ v', e = .returned v' ∧ DuRow base w' v' (l.take K ++ d :: l.drop K) ∧ Below base w w' ∧ (∀ k, k ≠ g → k < w.heap.size → w'.heap[k]? = w.heap[k]?) ∧ (∀ k, v'.ownBlock = some k → k = g ∨ w.heap.size ≤ k) := by
  by_cases hKn : K = n
  · subst hKn
    have e1 : l.take K = l := List.take_of_length_le (by omega)
    have e2 : l.drop K = [] := List.drop_eq_nil_of_le (by omega)
    have H : Hid (DuRow base w (.slice (some ⟨g, 0, none⟩) K K) l ∧ Boxed w vb #[.int .i64 d.time, .int .i64 d.id] 33 ∧ base ≤ w.heap.size ∧ l.length ≤ 1048576) := ⟨hrow, hbx, hb, by omega⟩
    rw [e1, e2]
    clear e1 e2 hrow hbx hn
    go_enter Tryz.func35, Tryz.ntmps35
    go_wp2_with (at_builtin; refine du_list_where rfl (.tmp 23) (.tmp 24) rfl base _ l d rfl H.out.1 rfl H.out.2.1 H.out.2.2.2 H.out.2.2.1 ?_; intro v' w5 q1 q2 q3 q4; have R : Hid (DuRow base w5 v' (l ++ [d]) ∧ Below base w w5 ∧ (∀ k, k ≠ g → k < w.heap.size → w5.heap[k]? = w.heap[k]?) ∧ (∀ k, v'.ownBlock = some k → k = g ∨ w.heap.size ≤ k)) := ⟨q1, q2, fun k hk hl => q3 k (fun e => hk (by cases e; rfl)) hl, fun k hk => (q4 k hk).imp (fun e => by cases e; rfl) id⟩; clear q1 q2 q3 q4)
    go_ret
    exact ⟨_, rfl, R.out⟩
  have hlt : K < n := by omega
  obtain ⟨i0, hi0, hz0, hzs, hzb⟩ := info_parts duInfo
  have hat : DusAt w (some ⟨g, 0, none⟩) l := by
    have := hrow
    rw [← hn] at this
    exact this.at
  have hatK : DusAt w (some ⟨g, 0, none⟩) (l.take K) := by
    intro k hk
    rw [List.length_take] at hk
    obtain ⟨b', off', e, hb', c0, c1⟩ := hat k (by omega)
    have e2 : duAt (l.take K) k = duAt l k := by unfold duAt; rw [List.getElem?_take_of_lt (by omega)]
    exact ⟨b', off', e, hb', by rw [e2]; exact c0, by rw [e2]; exact c1⟩
  have hgl : g < w.heap.size := (World.ownsRow.lt hrow g rfl).2
  have hold : (Builtin.firstCells i0.size K (.slice (some ⟨g, 0, none⟩) K n)).run Tryz.prog w.drew = .ok (ducells (l.take K)).toArray w.drew := by
    rw [hzs]
    exact run_firstCells_some w.drew 2 K ⟨g, 0, none⟩ K n (ducells (l.take K)) (by rw [ducells_length, List.length_take]; congr 1; omega) hatK.src
  have hik : K + (n + 1 - K) = n + 1 := by omega
  have hrz : ∀ ty, (Builtin.append_ #[24, 3] ty #[.slice (some ⟨g, 0, none⟩) K n, .int .i64 ((n : Int) + 1 - (K : Int))]).run Tryz.prog w = .ok (.slice (some ⟨w.heap.size, 0, none⟩) (n + 1) (grownCap w (n + 1) n 33)) (w.drew.alloc (.cells ((ducells (l.take K)).toArray ++ Builtin.zeroCells (Value.agg #[.int .i64 0, .int .i64 0]).cells (n + 1 - K) ++ Builtin.zeroCells (Value.agg #[.int .i64 0, .int .i64 0]).cells (grownCap w (n + 1) n 33 - (n + 1))) 33)) := fun ty => by
    have h := Lib.run_append_grow_zeros (P := Tryz.prog) w 24 3 ty 33 i0 _ .i64 .i64 Tryz.underlying24 Tryz.underlying3 hi0 hz0 (some ⟨g, 0, none⟩) K n (ducells (l.take K)) hold (n + 1 - K) (by omega) (by rw [hzs]; omega) (by omega) (by omega) (by rw [hzb]; omega) (by rw [hzb, hik]; exact growslice_fits (by omega) (by omega))
    rw [hik] at h
    rw [show (n : Int) + 1 - (K : Int) = ((n + 1 - K : Nat) : Int) by omega]
    exact h
  have hG1 := grownCap_ge w (n + 1) n 33
  have hG2 := grownCap_le_maxLen w (n + 1) n 33 (by unfold maxLen; omega)
  generalize grownCap w (n + 1) n 33 = G at hrz hG1 hG2
  obtain ⟨Z, hZe⟩ : ∃ Z : Array Value, Z = Builtin.zeroCells (Value.agg #[.int .i64 0, .int .i64 0]).cells (n + 1 - K) ++ Builtin.zeroCells (Value.agg #[.int .i64 0, .int .i64 0]).cells (G - (n + 1)) := ⟨_, rfl⟩
  have hZl : Z.toList.length = (G - K) * 2 := by rw [hZe]; simp [size_zeroCells, Value.cells]; omega
  rw [Array.append_assoc, ← hZe] at hrz
  obtain ⟨ROW, hR⟩ : ∃ ROW, ROW = (ducells (l.take K)).toArray ++ Z := ⟨_, rfl⟩
  rw [← hR] at hrz
  have hRl : ROW.toList = ducells (l.take K) ++ Z.toList := by rw [hR]; simp
  obtain ⟨r1, hr1⟩ : ∃ r1, r1 = ROW.toList.take (K * 2) ++ ducells [d] ++ ROW.toList.drop (K * 2 + 1 * 2) := ⟨_, rfl⟩
  obtain ⟨r2, hr2⟩ : ∃ r2, r2 = r1.take (K * 2 + 2) ++ ducells (l.drop K) ++ r1.drop (K * 2 + 2 + (n - K) * 2) := ⟨_, rfl⟩
  have hF := ins_cells (Z := Z.toList) (d := d) hn hK hG1 hZl r1 r2 (by rw [hr1, hRl]) hr2
  have hRs : ROW.size = G * 2 := by rw [← Array.length_toList, hRl, List.length_append, hZl, ducells_length, List.length_take]; omega
  have hvat : DusAt w (some ⟨vb, 0, none⟩) [d] := by
    intro k hk
    obtain rfl : k = 0 := by simpa using hk
    exact ⟨vb, 0, rfl, hbx.under, hbx.cell 0 rfl, hbx.cell 1 rfl⟩
  have hbA : Below w.heap.size w (w.alloc (.cells ROW 33)) := (Below.refl _ _).alloc (Nat.le_refl _) _
  have hgA : (w.alloc (.cells ROW 33)).heap[w.heap.size]? = some (.cells ROW 33 (0, 0)) := heap_alloc_new w _
  have hcA : ∀ (W : World), W.heap = (w.alloc (.cells ROW 33)).heap → ∀ ty dL dC, 1 ≤ dL → (Builtin.copy_ #[24, 24] ty #[.slice (some ⟨w.heap.size, K * 2, none⟩) dL dC, .slice (some ⟨vb, 0, none⟩) 1 1]).run Tryz.prog W = .ok (.int .i64 1) (W.setRow w.heap.size r1.toArray) := fun W hW ty dL dC hd => by
    have hx : DusAt W (some ⟨vb, 0, none⟩) [d] := fun k hk => by
      obtain ⟨b', o', e, q1, q2, q3⟩ := hvat.below hbA k hk
      refine ⟨b', o', e, by rw [hW]; exact q1, ?_, ?_⟩
      · rw [World.cell?_of_block (w := w.alloc (.cells ROW 33)) (by rw [hW])]; exact q2
      · rw [World.cell?_of_block (w := w.alloc (.cells ROW 33)) (by rw [hW])]; exact q3
    have := ducopy_at W ty w.heap.size (K * 2) dL dC vb 0 1 1 [d] ROW (by rw [hW]; exact hgA) rfl hd (by rw [hRs]; omega) hx
    rw [← hr1] at this
    exact this
  have hgB : ∀ (W : World), W.heap = ((w.alloc (.cells ROW 33)).setRow w.heap.size r1.toArray).heap → W.heap[w.heap.size]? = some (.cells r1.toArray 33 (0, 0)) := fun W hW => by rw [hW]; exact setRow_heap _ _ _ _ _ _ hgA
  have hatB : DusAt ((w.alloc (.cells ROW 33)).setRow w.heap.size r1.toArray) (some ⟨g, K * 2, none⟩) (l.drop K) := by
    have h1 : DusAt w (some ⟨g, 0 + K * 2, none⟩) (l.drop K) := by
      intro k hk
      rw [List.length_drop] at hk
      obtain ⟨b', off', e, hb', c0, c1⟩ := hat (K + k) (by omega)
      cases e
      have e2 : duAt (l.drop K) k = duAt l (K + k) := by unfold duAt; rw [List.getElem?_drop]
      refine ⟨g, 0 + K * 2, rfl, hb', ?_, ?_⟩
      · rw [e2, ← c0]; congr 2; omega
      · rw [e2, ← c1]; congr 2; omega
    rw [Nat.zero_add] at h1
    intro k hk
    obtain ⟨b', off', e, hb', c0, c1⟩ := (h1.below hbA) k hk
    cases e
    have hgne : ((w.alloc (.cells ROW 33)).setRow w.heap.size r1.toArray).heap[g]? = (w.alloc (.cells ROW 33)).heap[g]? := setRow_other _ _ _ _ (by omega)
    refine ⟨g, K * 2, rfl, by simpa [World.setRow] using hb', ?_, ?_⟩
    · rw [World.cell?_of_block (w := w.alloc (.cells ROW 33)) hgne]; exact c0
    · rw [World.cell?_of_block (w := w.alloc (.cells ROW 33)) hgne]; exact c1
  have hcB : ∀ (W : World), W.heap = ((w.alloc (.cells ROW 33)).setRow w.heap.size r1.toArray).heap → ∀ ty dL dC sC, n - K ≤ dL → (Builtin.copy_ #[24, 24] ty #[.slice (some ⟨w.heap.size, K * 2 + 2, none⟩) dL dC, .slice (some ⟨g, K * 2, none⟩) (n - K) sC]).run Tryz.prog W = .ok (.int .i64 ((n - K : Nat) : Int)) (W.setRow w.heap.size r2.toArray) := fun W hW ty dL dC sC hd => by
    have hx : DusAt W (some ⟨g, K * 2, none⟩) (l.drop K) := fun k hk => by
      obtain ⟨b', o', e, q1, q2, q3⟩ := hatB k hk
      refine ⟨b', o', e, by rw [hW]; exact q1, ?_, ?_⟩
      · rw [World.cell?_of_block (w := (w.alloc (.cells ROW 33)).setRow w.heap.size r1.toArray) (by rw [hW])]; exact q2
      · rw [World.cell?_of_block (w := (w.alloc (.cells ROW 33)).setRow w.heap.size r1.toArray) (by rw [hW])]; exact q3
    have := ducopy_at W ty w.heap.size (K * 2 + 2) dL dC g (K * 2) (n - K) sC (l.drop K) r1.toArray (hgB W hW) (by rw [List.length_drop, hn]) hd (by rw [List.size_toArray, hF.1]; omega) hx
    rw [List.toList_toArray, ← hr2] at this
    exact this
  have Fin : Hid (∀ W : World, W.heap = (((w.alloc (.cells ROW 33)).setRow w.heap.size r1.toArray).setRow w.heap.size r2.toArray).heap → Below w.heap.size w W → DuRow base W (.slice (some ⟨w.heap.size, 0, none⟩) (n + 1) G) (l.take K ++ d :: l.drop K) ∧ Below base w W ∧ (∀ k, k ≠ g → k < w.heap.size → W.heap[k]? = w.heap[k]?) ∧ (∀ k, (Value.slice (some ⟨w.heap.size, 0, none⟩) (n + 1) G).ownBlock = some k → k = g ∨ w.heap.size ≤ k)) := fun W hW hbel => by
    refine ⟨⟨?_, .inr ⟨w.heap.size, G, r2.toArray, ?_, hb, ?_, ?_, hG2, ?_, ?_⟩⟩, hbel.mono hb, fun k _ hk => hbel.block k hk, fun k hk => .inr (by cases hk; exact Nat.le_refl _)⟩
    · rw [ducells_length]
    · congr 1
      simp
      omega
    · rw [hW]
      exact setRow_heap _ _ _ _ _ _ (hgB _ rfl)
    · simp
      omega
    · rw [List.size_toArray, hF.2.1]
    · rw [← hF.2.2]
      congr 1
      simp
      omega
  have hz2 : ¬ ((K : Int) = (n : Int)) := by omega
  have hz3 : (n : Int) < (n : Int) + 1 := by omega
  have hw1 : IntKind.i64.wrap ((K : Int) + 1) = (K : Int) + 1 := by rw [IntKind.wrap_i64]; omega
  have hw2 : IntKind.i64.wrap ((n : Int) + 1) = (n : Int) + 1 := by rw [IntKind.wrap_i64]; omega
  have hw3 : IntKind.i64.wrap ((n : Int) + 1 - (K : Int)) = (n : Int) + 1 - (K : Int) := by rw [IntKind.wrap_i64]; omega
  have hb1 : (0 : Int) ≤ (K : Int) + 1 := by omega
  have hb2 : (K : Int) + 1 ≤ (n : Int) + 1 := by omega
  have hb3 : (K : Int) ≤ (n : Int) := by omega
  have hb4 : (K : Int) ≤ (n : Int) + 1 := by omega
  have hb5 : (n : Int) + 1 ≤ (G : Int) := by omega
  have htn : ((K : Int) + 1).toNat = K + 1 := by omega
  have hGK : ¬ (G = K) := by omega
  have hGK1 : ¬ (G = K + 1) := by omega
  have hnK : ¬ (n = K) := by omega
  have hC1 : Hid (Below w.heap.size w ((((w.alloc (.cells ROW 33)).drew.setRow w.heap.size r1.toArray).drew).setRow w.heap.size r2.toArray)) :=
    below_setRow (below_setRow hbA.drew (Nat.le_refl _) _).drew (Nat.le_refl _) _
  have hcA1 : ∀ ty, (Builtin.copy_ #[24, 24] ty #[.slice (some ⟨w.heap.size, K * 2, none⟩) (n + 1 - K) (G - K), .slice (some ⟨vb, 0, none⟩) 1 1]).run Tryz.prog (w.alloc (.cells ROW 33)).drew = .ok (.int .i64 1) ((w.alloc (.cells ROW 33)).drew.setRow w.heap.size r1.toArray) := fun ty => hcA (w.alloc (.cells ROW 33)).drew rfl ty (n + 1 - K) (G - K) (by omega)
  have hcB1 : ∀ ty, (Builtin.copy_ #[24, 24] ty #[.slice (some ⟨w.heap.size, K * 2 + 2, none⟩) (n + 1 - (K + 1)) (G - (K + 1)), .slice (some ⟨g, K * 2, none⟩) (n - K) (n - K)]).run Tryz.prog ((w.alloc (.cells ROW 33)).drew.setRow w.heap.size r1.toArray).drew = .ok (.int .i64 ((n - K : Nat) : Int)) (((w.alloc (.cells ROW 33)).drew.setRow w.heap.size r1.toArray).drew.setRow w.heap.size r2.toArray) := fun ty => hcB ((w.alloc (.cells ROW 33)).drew.setRow w.heap.size r1.toArray).drew rfl ty (n + 1 - (K + 1)) (G - (K + 1)) (n - K) (by omega)
  have mixed : Tryz.prog.follows Departure.mixedOrders = true := by kernel_rfl
  clear hcA hcB
  clear hR hRl hr1 hr2 hF hRs hvat hbA hgA hgB hatB hold hatK hat hZe hZl hrow hbx hi0 hz0 hzs hzb
  go_enter Tryz.func35, Tryz.ntmps35
  go_wp2_with (at_builtin; refine Lib.wpList_append_run _ rfl _ _ _ _ rfl _ _ rfl rfl _ _ (hrz _) ?_)
  go_region_law_o (refine step_copyY rfl _ _ rfl (.slice (some ⟨w.heap.size, K * 2 + 2, none⟩) (n + 1 - (K + 1)) (G - (K + 1))) (.slice (some ⟨g, K * 2, none⟩) (n - K) (n - K)) (by simp [Act.eval, Act.put]) (by simp [Act.eval, Act.put]) (hcB1 _) ?_)
  go_wp2
  go_ret
  exact ⟨_, rfl, Fin.out _ rfl hC1.out⟩
end Go.Proofs.YtkocbfikcjgigaaGreat
