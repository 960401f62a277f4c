/-
  The walks of the laws' marks in a list of the answer's own. By the verifier.
-/
import Derived.Test.YtokchjemmdimkaaDoorRdSpec
import Derived.Test.YtokchjemmdimkaaDoorFrEq
namespace Go.Proofs.YtokchjemmdimkaaDoor
open Go.RowKit

/-- The first j marked, the others as they were. -/
def mks (k : Int) (T : List Int) (j : Nat) : List Int := (List.range j).map (fun (i : Nat) => k + (i : Int)) ++ T.drop j
theorem mks_length (k : Int) (T : List Int) (j : Nat) (h : j ≤ T.length) : (mks k T j).length = T.length := by simp [mks]; omega
theorem mks_zero (k : Int) (T : List Int) : mks k T 0 = T := by simp [mks]
theorem mks_step (k : Int) (T : List Int) (j : Nat) (h : j < T.length) : (mks k T j).set j (k + (j : Int)) = mks k T (j + 1) := by
  unfold mks
  rw [List.set_append_right _ _ (by simp), List.range_succ, List.map_append]
  simp
  rw [List.drop_eq_getElem_cons h]
  rfl
theorem mks_end (k : Int) (T : List Int) (j : Nat) (hj : j < T.length) : (mks k T T.length)[j]?.getD 0 = k + (j : Int) := by
  have : j < T.length := hj
  simp [mks, this]

/-- All blocks but a list's own are as they were. -/
structure Oth (v : Value) (w w' : World) : Prop where
  size : w.heap.size ≤ w'.heap.size
  block : ∀ k, v.ownBlock ≠ some k → k < w.heap.size → w'.heap[k]? = w.heap[k]?
theorem Oth.refl (v : Value) (w : World) : Oth v w w := ⟨Nat.le_refl _, fun _ _ _ => rfl⟩
theorem Oth.trans {v : Value} {x y z : World} (h : Oth v x y) (g : Oth v y z) : Oth v x z := ⟨Nat.le_trans h.size g.size, fun k h1 h2 => (g.block k h1 (Nat.lt_of_lt_of_le h2 h.size)).trans (h.block k h1 h2)⟩
theorem irow_ne {base B : Nat} {w : World} {v : Value} {xs : List Int} {cs : Array Value} (h : IRow base w v xs) (x : Boxed w B cs 26) : v.ownBlock ≠ some B := by
  rcases h.2 with ⟨rfl, _⟩ | ⟨g0, cap, cur, rfl, h2, h3, h4⟩
  · intro e; cases e
  · intro e
    have e : g0 = B := by simpa [Value.ownBlock] using e
    subst e
    unfold Boxed at x
    rw [x] at h3
    injection h3 with h3
    injection h3 with _ h3 _
    exact absurd h3 (by decide)

set_option maxHeartbeats 1600000 in
theorem markInts (base : Nat) (a : Option Addr) (cap : Nat) (T : List Int) (hT : T.length ≤ 100) (w : World) (H : Hid (IRow base w (.slice a T.length cap) T)) :
    Calls Tryd.prog 38 #[.slice a T.length cap, .int .i64 1] w fun e w' => e = .returned (.int .i64 (1 + (T.length : Int))) ∧ IRow base w' (.slice a T.length cap) (mks 1 T T.length) ∧ Below base w w' ∧ Oth (.slice a T.length cap) w w' := by
  obtain ⟨len, hlen⟩ : ∃ n, T.length = n := ⟨_, rfl⟩
  have H : Hid (w.ownsRow base 2 1 (.slice a len cap) len (T.map (Value.int .i64))) := by
    have h := H.out
    unfold IRow at h
    rw [hlen] at h
    exact h
  rw [hlen] at hT ⊢
  have Hlen : Hid (T.length = len) := hlen
  clear hlen
  go_enter Tryd.func38, Tryd.ntmps38
  go_wp2
  go_loopw [1, 5] (fun kk i wr => ∃ j : Nat, j ≤ len ∧ i = .int .i64 j ∧ kk = .int .i64 (1 + (j : Int)) ∧ Hid (wr.ownsRow base 2 1 (.slice a len cap) len ((mks 1 T j).map (Value.int .i64)) ∧ Below base w wr ∧ Oth (.slice a len cap) w wr)) (fun _ i _ => len - (intOf i).toNat)
  case atStart => exact ⟨0, Nat.zero_le _, rfl, by simp, by rw [mks_zero]; exact H.out, Below.refl _ _, Oth.refl _ _⟩
  case round =>
    obtain ⟨j, hj, rfl, rfl, H2⟩ := hrel
    by_cases hlt : j < len
    · obtain ⟨g, ha⟩ : ∃ g, a = some ⟨g, 0, none⟩ := by
        rcases H2.out.1.2 with ⟨e, _⟩ | ⟨g, cap', cur, e, _⟩
        · cases e; omega
        · cases e; exact ⟨g, rfl⟩
      subst ha
      have hst := H2.out.1.stored j (.int .i64 (1 + (j : Int)))
      have hm : (((mks 1 T j).map (Value.int .i64)).set j (.int .i64 (1 + (j : Int)))) = (mks 1 T (j + 1)).map (Value.int .i64) := by
        rw [← mks_step 1 T j (by rw [Hlen.out]; exact hlt), List.map_set]
      rw [hm] at hst
      have hfz := H2.out.1.frozenAt j
      obtain ⟨cv, hcv⟩ : ∃ v, wr.cell? ⟨g, j, none⟩ = some v := by
        have := H2.out.1.cellAt j (by omega)
        rw [this]
        exact ⟨_, List.getElem?_eq_getElem (by rw [List.length_map, mks_length 1 T j (by rw [Hlen.out]; omega), Hlen.out]; exact hlt)⟩
      have hblk := (World.ownsRow.lt H2.out.1 g rfl).1
      have H3 : Hid (_ ∧ Below base w (wr.setCell ⟨g, j, none⟩ (.int .i64 (1 + (j : Int)))) ∧ Oth (.slice (some ⟨g, 0, none⟩) len cap) w (wr.setCell ⟨g, j, none⟩ (.int .i64 (1 + (j : Int))))) := ⟨hst.1, H2.out.2.1.setCell hblk _, H2.out.2.2.trans ⟨by simp [World.setCell], fun k hk _ => Below.heap_setCell _ _ _ _ (by intro e; exact hk (by rw [e]; rfl))⟩⟩
      clear hst hm hblk
      go_wp2
      go_roundw
      case rel => exact ⟨j + 1, by omega, by go_num, by go_num, H3⟩
      case measure => simp [intOf]; omega
    · obtain rfl : j = len := by omega
      go_wp2
      go_ret
      refine ⟨rfl, ?_, H2.out.2⟩
      have h := H2.out.1
      unfold IRow
      rw [mks_length 1 T _ (by rw [Hlen.out]; omega), Hlen.out]
      exact h

set_option maxHeartbeats 1600000 in
theorem heldInts (a : Option Addr) (cap : Nat) (T : List Int) (hT : T.length ≤ 100) (w : World) (H : Hid (IntsAt w a (mks 1 T T.length))) :
    Calls Tryd.prog 39 #[.slice a T.length cap, .int .i64 1] w fun e w' => e = .returned (.int .i64 (1 + (T.length : Int))) ∧ w' = w := by
  have Hc : Hid (∀ j, j < T.length → ∃ b off, a = some ⟨b, off, none⟩ ∧ w.cell? ⟨b, off + j, none⟩ = some (.int .i64 (1 + (j : Int)))) := by
    show ∀ j, j < T.length → ∃ b off, a = some ⟨b, off, none⟩ ∧ w.cell? ⟨b, off + j, none⟩ = some (.int .i64 (1 + (j : Int)))
    intro j hj
    obtain ⟨b, off, e, _, hc⟩ := H.out j (by rw [mks_length 1 T _ (Nat.le_refl _)]; exact hj)
    rw [mks_end 1 T j hj] at hc
    exact ⟨b, off, e, hc⟩
  generalize T.length = len at hT Hc ⊢
  clear H
  go_enter Tryd.func39, Tryd.ntmps39
  go_wp2
  go_loop [1, 5] (fun kk i => ∃ j : Nat, j ≤ len ∧ i = .int .i64 j ∧ kk = .int .i64 (1 + (j : Int))) (fun _ i => len - (intOf i).toNat)
  case atStart => exact ⟨0, Nat.zero_le _, rfl, by simp⟩
  case round =>
    obtain ⟨j, hj, rfl, rfl⟩ := hrel
    by_cases hlt : j < len
    · obtain ⟨b, off, ha, hc⟩ := Hc.out j hlt
      subst ha
      go_wp2
      go_round
      case rel => exact ⟨j + 1, by omega, by go_num, by go_num⟩
      case measure => simp [intOf]; omega
    · obtain rfl : j = len := by omega
      go_wp2
      go_ret
      exact ⟨rfl, rfl⟩

set_option maxHeartbeats 1600000 in
theorem markFr (base : Nat) (f : Fr) (a : Option Addr) (cap : Nat) (hT : f.tags.length ≤ 100) (w : World) (hb : base ≤ w.heap.size) (H : Hid (IRow base w (.slice a f.tags.length cap) f.tags)) :
    Calls Tryd.prog 19 #[f.val a cap, .int .i64 1] w fun e w' => e = .returned (.int .i64 (1 + (f.tags.length : Int))) ∧ IRow base w' (.slice a f.tags.length cap) (mks 1 f.tags f.tags.length) ∧ Below base w w' ∧ Oth (.slice a f.tags.length cap) w w' := by
  obtain ⟨dest, frm, tags, src, dst, proto, sport, dport, mark, sum, body⟩ := f
  simp only [Fr.val] at hT H ⊢
  go_enter Tryd.func19, Tryd.ntmps19
  go_wp2_with fail
  refine (markInts base a cap tags hT _ (World.ownsRow.alloc H.out _)).mono ?_
  rintro e w2 ⟨rfl, r2, b2, o2⟩
  have H2 : Hid (IRow base w2 (.slice a tags.length cap) (mks 1 tags tags.length) ∧ Below base w w2 ∧ Oth (.slice a tags.length cap) w w2) := ⟨r2, (bel_alloc (Below.refl _ w) hb _).trans b2, Oth.trans ⟨by simp, fun k _ hk => Below.heap_alloc _ _ _ hk⟩ o2⟩
  clear r2 b2 o2
  go_wp2
  go_ret
  exact ⟨rfl, H2.out⟩
set_option maxHeartbeats 1600000 in
theorem heldFr (f : Fr) (a : Option Addr) (cap : Nat) (hT : f.tags.length ≤ 100) (w : World) (H : Hid (IntsAt w a (mks 1 f.tags f.tags.length))) :
    Calls Tryd.prog 20 #[f.val a cap, .int .i64 1] w fun e w' => e = .returned (.int .i64 (1 + (f.tags.length : Int))) ∧ Below w.heap.size w w' := by
  obtain ⟨dest, frm, tags, src, dst, proto, sport, dport, mark, sum, body⟩ := f
  simp only [Fr.val] at hT H ⊢
  go_enter Tryd.func20, Tryd.ntmps20
  go_wp2_with fail
  refine (heldInts a cap tags hT _ (H.out.alloc _)).mono ?_
  rintro e w2 ⟨rfl, rfl⟩
  go_wp2
  go_ret
  exact ⟨rfl, (Below.refl _ _).alloc (Nat.le_refl _) _⟩
theorem sKind_len (text : ByteArray) (dest frm : Int) : ∀ (k p : Nat) (T : List Int), T.length + k = 2 → (sKind text dest frm k p T).1.tags.length ≤ 2 := by
  have ht : ∀ (T : List Int) (p : Nat), T.length ≤ 2 → (sTail text dest frm T p).1.tags.length ≤ 2 := by
    intro T p h
    unfold sTail
    repeat' split
    all_goals first | exact h | exact Nat.zero_le _
  intro k
  induction k with
  | zero =>
    intro p T h
    rw [sKind]
    repeat' split
    all_goals first | exact ht T _ (by omega) | exact Nat.zero_le _
  | succ k ih =>
    intro p T h
    rw [sKind]
    repeat' split
    all_goals first | exact ht T _ (by omega) | exact ih _ _ (by simp; omega) | exact Nat.zero_le _
theorem sRun_len (text : ByteArray) : (sRun text).1.tags.length ≤ 2 := by
  unfold sRun
  split
  · exact Nat.zero_le _
  · exact sKind_len text _ _ 2 4 [] rfl
end Go.Proofs.YtokchjemmdimkaaDoor
