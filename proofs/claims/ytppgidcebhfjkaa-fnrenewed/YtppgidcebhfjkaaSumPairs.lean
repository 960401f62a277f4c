/-
  The program's Sum16: the pairs of bytes that its iterator tells, and their sum. By the verifier.
-/
import Derived.Test.YtppgidcebhfjkaaSumSpec
import Derived.RangeFuncFrom
import Derived.RangeFuncNested
import Derived.RangeFuncBound
import Derived.RangeFuncCalls
import Derived.RangeFuncLeaves
import Derived.Shelf.Abstract
import Derived.Shelf.RegionOpen
import Derived.OwnWalkIn
import Derived.TacticsInMore
import Derived.LoopNIn
import Derived.LoopIn
namespace Go.Proofs.Ytppgidcebhfjkaa
open Go.RowKit Go.Shelf
attribute [local go_sem] Oper.semAt_some

theorem implFolded (a b : Int) (a0 : 0 ≤ a) (a1 : a ≤ 65535) (b0 : 0 ≤ b) (b1 : b ≤ 65535) (w : World) :
    Calls Try.prog 22 #[.int .i64 a, .int .i64 b] w fun e w' => e = .returned (.int .i64 (fold16 a b)) ∧ w' = w := by
  unfold fold16
  by_cases h : 65535 < a + b
  · rw [if_pos h]
    go_enter Try.func22, Try.ntmps22
    go_wp2
    go_ret
    exact ⟨rfl, rfl⟩
  · rw [if_neg h]
    go_enter Try.func22, Try.ntmps22
    go_wp2
    go_ret
    exact ⟨rfl, rfl⟩

/-- A number of two bytes. -/
abbrev Pair := { x : Int // 0 ≤ x ∧ x ≤ 65535 }
def pairAt (text : ByteArray) (j : Nat) : Pair := ⟨byteAt text (2 * j) * 256 + byteAt text (2 * j + 1), by
  have a := byteAt_in text (2 * j)
  have b := byteAt_in text (2 * j + 1)
  omega⟩
/-- The pairs ahead of j. -/
def pairsTo (text : ByteArray) (j : Nat) : List Pair := (List.range j).map (pairAt text)
theorem pairsTo_succ (text : ByteArray) (j : Nat) : pairsTo text (j + 1) = pairsTo text j ++ [pairAt text j] := by simp [pairsTo, List.range_succ]
theorem pairsTo_length (text : ByteArray) (j : Nat) : (pairsTo text j).length = j := by simp [pairsTo]
/-- The pairs, folded. -/
def sumP (xs : List Pair) : Int := xs.foldl (fun s p => fold16 s p.1) 0
theorem sumP_snoc (xs : List Pair) (p : Pair) : sumP (xs ++ [p]) = fold16 (sumP xs) p.1 := by simp [sumP]
theorem sumP_to (text : ByteArray) (j : Nat) : sumP (pairsTo text j) = sumTo text j := by
  induction j with
  | zero => rfl
  | succ j ih => rw [pairsTo_succ, sumP_snoc, ih]; rfl
theorem foldl_in (xs : List Pair) : ∀ s : Int, 0 ≤ s → s ≤ 65535 → 0 ≤ xs.foldl (fun s p => fold16 s p.1) s ∧ xs.foldl (fun s p => fold16 s p.1) s ≤ 65535 := by
  induction xs with
  | nil => intro s h0 h1; exact ⟨h0, h1⟩
  | cons p xs ih =>
    intro s h0 h1
    have := fold16_in h0 h1 p.2.1 p.2.2
    exact ih _ this.1 this.2
theorem sumP_in (xs : List Pair) : 0 ≤ sumP xs ∧ sumP xs ≤ 65535 := foldl_in xs 0 (by omega) (by omega)

/-- A round keeps what the iterator has captured. -/
def KeptAt (B : Nat) (W W' : World) : Prop := ∀ v, W.cell? ⟨B, 0, none⟩ = some v → W'.cell? ⟨B, 0, none⟩ = some v

set_option maxHeartbeats 1600000 in
set_option maxRecDepth 100000 in
theorem pairs_stops (n : Nat) (hn : 1 ≤ n) (B : Nat) (text : ByteArray) (hsz : text.size ≤ 1048576) (w : World) (hB : w.cell? ⟨B, 0, none⟩ = some (.string text)) (hlt : B < w.heap.size) :
    SeqStopsK Fence.wide n Try.prog 46 #[.pointer (some ⟨B, 0, none⟩)] (fun p : Pair => #[.int .i64 p.1]) (KeptAt B) (fun xs => xs = pairsTo text ((text.size + 1) / 2)) (fun _ => True) ((text.size + 1) / 2) w := fun l J Jx W hW _ _ hY h0 => by
  have hC : W.cell? ⟨B, 0, none⟩ = some (.string text) := (hW.cell (p := ⟨B, 0, none⟩) hlt).trans hB
  refine callsIn_of_wp Try.func46 rfl trivial ?_ rfl
  simp only [Try.ntmps46, List.size_toArray, List.length_cons, List.length_nil, Nat.reduceAdd, Nat.reduceSub, Array.replicate_succ, Array.replicate_zero, List.push_toArray, List.append_toArray, List.nil_append, List.cons_append]
  gi_wp2
  gi_loopw [3] (fun i wr => ∃ j : Nat, j ≤ (text.size + 1) / 2 ∧ i = .int .i64 (2 * (j : Int)) ∧ wr.cell? ⟨B, 0, none⟩ = some (.string text) ∧ J (pairsTo text j) wr)
    (fun i _ => text.size + 1 - (intOf i).toNat)
  case atStart => exact ⟨0, Nat.zero_le _, by simp, hC, h0⟩
  case round =>
    obtain ⟨j, hj, rfl, hC', hJ'⟩ := hrel
    by_cases hl0 : 2 * j < text.size
    · have hin' : 2 * (j : Int) < text.size := by omega
      have e0 : byteAt text (2 * j) = ((text[2 * j]'hl0).toNat : Int) := by unfold byteAt; rw [dif_pos hl0]
      have hx := (text[2 * j]'hl0).toNat_lt
      obtain ⟨fn, tmps, assign, body, hy, hR⟩ := hY (pairsTo text j) (pairAt text j) wr hJ' (by rw [pairsTo_length]; omega)
      by_cases hl1 : 2 * j + 1 < text.size
      · have hin1 : 2 * (j : Int) + 1 < text.size := by omega
        have e1 : byteAt text (2 * j + 1) = ((text[2 * j + 1]'hl1).toNat : Int) := by unfold byteAt; rw [dif_pos hl1]
        have hy1 := (text[2 * j + 1]'hl1).toNat_lt
        dsimp only [pairAt] at hy
        rw [e0, e1] at hy
        gi_wp2
        refine hR.mono ?_
        rintro e W3 (⟨rfl, hJ3, hk3⟩ | ⟨rfl, hJx3⟩)
        · have hC3 := hk3 _ hC'
          gi_wp2
          go_roundw
          case rel => exact ⟨j + 1, by omega, by go_num, hC3, by rw [pairsTo_succ]; exact hJ3⟩
          case measure => simp [intOf]; omega
        · gi_wp2
          refine bodyPost_ret (results_none rfl _ _ _) rfl ?_
          exact ⟨⟨_, rfl⟩, .inr ⟨_, trivial, hJx3⟩⟩
      · have hin1 : ¬ 2 * (j : Int) + 1 < text.size := by omega
        have e1 : byteAt text (2 * j + 1) = 0 := by unfold byteAt; rw [dif_neg hl1]
        dsimp only [pairAt] at hy
        rw [e0, e1, Int.add_zero] at hy
        gi_wp2
        refine hR.mono ?_
        rintro e W3 (⟨rfl, hJ3, hk3⟩ | ⟨rfl, hJx3⟩)
        · have hC3 := hk3 _ hC'
          gi_wp2
          go_roundw
          case rel => exact ⟨j + 1, by omega, by go_num, hC3, by rw [pairsTo_succ]; exact hJ3⟩
          case measure => simp [intOf]; omega
        · gi_wp2
          refine bodyPost_ret (results_none rfl _ _ _) rfl ?_
          exact ⟨⟨_, rfl⟩, .inr ⟨_, trivial, hJx3⟩⟩
    · have he : j = (text.size + 1) / 2 := by omega
      gi_wp2
      go_end0
      exact ⟨⟨_, rfl⟩, .inl ⟨_, by rw [he], hJ'⟩⟩

theorem implPairs (text : ByteArray) (w : World) :
    Calls Try.prog 39 #[.string text] w fun e w' => e = .returned (.func (.func 46) #[] #[.pointer (some ⟨w.heap.size, 0, none⟩)]) ∧ w' = w.alloc (.cells #[.string text] 9) := by
  go_enter Try.func39, Try.ntmps39
  go_wp2
  go_ret
  exact ⟨rfl, rfl⟩

theorem ofBox {W : World} {B : Nat} {v : Value} {t : TypeId} (h : W.heap[B]? = some (.cells #[v] t)) : W.cell? ⟨B, 0, none⟩ = some v ∧ W.frozen? ⟨B, 0, none⟩ = false := by
  constructor <;> simp [World.cell?, World.frozen?, h]
theorem farCell (W : World) (B : Nat) (v : Value) (k : Nat) : (W.setCell ⟨B, k, none⟩ v).cell? ⟨B + 1, 0, none⟩ = W.cell? ⟨B + 1, 0, none⟩ :=
  World.cell?_setCell_other _ _ _ _ (fun e => by have := congrArg Addr.block e; simp at this)
/-- A block of one cell that was just laid. -/
theorem oneNew (W : World) (v : Value) (t : TypeId) : (W.alloc (.cells #[v] t)).cell? ⟨W.heap.size, 0, none⟩ = some v ∧ (W.alloc (.cells #[v] t)).frozen? ⟨W.heap.size, 0, none⟩ = false :=
  ofBox (World.alloc_heap_new W _)
theorem cellAlloc {W : World} {a : Addr} {v : Value} (o : Obj) (h : W.cell? a = some v) : (W.alloc o).cell? a = some v := cell_kept h (World.grownBy_alloc W o none) (fun r e => by cases e)
theorem frozenAlloc {W : World} {a : Addr} {v : Value} (o : Obj) (h : W.cell? a = some v) (hf : W.frozen? a = false) : (W.alloc o).frozen? a = false := (frozen_kept h (World.grownBy_alloc W o none) (fun r e => by cases e)).trans hf

set_option maxRecDepth 100000 in
set_option maxHeartbeats 2000000 in
theorem implSum16 (text : ByteArray) (hsz : text.size ≤ 1048576) (w : World) :
    Calls Try.prog 18 #[.string text] w fun e w' => e = .returned (.int .i64 (sum16 text)) ∧ Below w.heap.size w w' := by
  refine (callsIn_wide (n := 3)).1 ?_
  refine callsIn_of_wp_marks Try.func18 rfl trivial ?_ rfl
  simp only [Try.ntmps18, List.size_toArray, List.length_cons, List.length_nil, Nat.reduceAdd, Nat.reduceSub, Array.replicate_succ, Array.replicate_zero, List.push_toArray, List.append_toArray, List.nil_append, List.cons_append]
  gi_wp2_with (refine ⟨trivial, ?_⟩; gi_at_call 39; refine (callsIn_wide.2 (implPairs _ _)).mono ?_; rintro e w' ⟨rfl, rfl⟩)
  have hs := oneNew w (.int .i64 0) 2
  have hb := oneNew (w.alloc (.cells #[.int .i64 0] 2)) (.string text) 9
  rw [World.size_alloc] at hb
  have hB0 : Below w.heap.size w ((w.alloc (.cells #[.int .i64 0] 2)).alloc (.cells #[.string text] 9)) := ((Below.refl _ w).alloc (Nat.le_refl _) _).alloc (by simp) _
  refine wpIn_rangeFunc_ownF rfl (by omega) (gf := 46) (lb := #[.pointer (some ⟨w.heap.size + 1, 0, none⟩)]) rfl trivial (enters_of Try.func46 (by kernel_rfl) rfl)
    (pairs_stops _ (by omega) (w.heap.size + 1) text hsz _ hb.1 (by simp)) (fun h k v e => k v (h v e)) (fun W l o o' _ h ho _ v e => cell_kept e (grownBy_putObj' W l o') (fun r e => by cases e; exact ⟨_, h, ho⟩)) (Below.refl _ _) (fun _ => rfl)
    (fun pre W => (W.cell? ⟨w.heap.size, 0, none⟩ = some (.int .i64 (sumP pre)) ∧ W.frozen? ⟨w.heap.size, 0, none⟩ = false) ∧ Below w.heap.size w W)
    (fun _ _ _ => False)
    (OwnFrom.and (Own.from (fun s A B row hs hg hr => ⟨cell_kept hs.1 hg hr, (frozen_kept hs.1 hg hr).trans hs.2⟩) _) (ownFrom_below (Nat.le_refl _) (by simp; omega)))
    (fun _ _ _ _ _ hs _ _ => hs)
    ⟨⟨cellAlloc _ hs.1, frozenAlloc _ hs.1 hs.2⟩, hB0⟩
    (fun x => { tmps := #[.string text, undef, .int .i64 0, .pointer (some ⟨w.heap.size, 0, none⟩), .int .i64 x.1, .string text, .func (.func 46) #[] #[.pointer (some ⟨w.heap.size + 1, 0, none⟩)], .int .i64 x.1, undef, undef, undef, undef, undef], defers := [] }) ?assign ?body ?done ?stop
  case assign =>
    intro l x W K hK
    gi_wp2
    exact hK
  case body =>
    rintro l pre x W ⟨⟨hc, hf⟩, hB⟩ _
    have hp := sumP_in pre
    have hd : 1 ≤ 3 - 1 - 1 := by omega
    have hn : Hid (sumP (pre ++ [x]) = fold16 (sumP pre) x.1) := sumP_snoc pre x
    gi_wp2_with (refine ⟨trivial, ?_⟩; gi_at_call 22; refine (CallsIn.inRound l (callsIn_wide.2 (implFolded _ _ hp.1 hp.2 x.2.1 x.2.2 _))).mono ?_; rintro e w' ⟨rfl, rfl⟩)
    exact ⟨KeepsOthers.setCell _ _ _, fun v e => (farCell _ _ _ _).trans e, ⟨by rw [hn.out]; exact World.cell?_setCell_same' _ _ _ (by rw [hc]; rfl), by rw [World.frozen?_setCell]; exact hf⟩, hB.setCell (p := ⟨w.heap.size, 0, none⟩) (Nat.le_refl _) _⟩
  case done =>
    rintro D ys W hD rfl ⟨⟨hc, _⟩, hB⟩ hK
    have hn : Hid (sum16 text = 65535 - sumP (pairsTo text ((text.size + 1) / 2))) := by rw [sumP_to]; rfl
    have hp := sumP_in (pairsTo text ((text.size + 1) / 2))
    gi_wp2
    refine ⟨by simp, .inl ⟨_, _, rfl, run_takeDeferred hK, ?_⟩⟩
    exact ⟨_, results_tmp rfl _ _ _, by rw [hn.out]; rfl, hB.trans (belowK_b (w := w) (Nat.le_refl _) W D _ _ (by simp at hD; omega) hK rfl rfl)⟩
  case stop =>
    rintro D c pre W _ _ h _
    exact h.elim
end Go.Proofs.Ytppgidcebhfjkaa
