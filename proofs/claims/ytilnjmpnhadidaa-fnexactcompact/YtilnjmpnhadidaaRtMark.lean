/-
  What the laws do to see whose memory an answer is: numbers put into its routes and looked for again. By the verifier.
-/
import Derived.Test.YtilnjmpnhadidaaRtRow
import Derived.Test.YtilnjmpnhadidaaRtTo
namespace Go.Proofs.Ytilnjmpnhadidaa
open Go.RowKit

/-- The marks of the route at a place. -/
def mkAt (i : Nat) : Rt := ⟨1 + 3 * (i : Int), 1 + 3 * (i : Int) + 1, 1 + 3 * (i : Int) + 2⟩
/-- The first j marked, the others as they were. -/
def mkR (L : List Rt) (j : Nat) : List Rt := (List.range j).map mkAt ++ L.drop j
theorem mkR_length (L : List Rt) (j : Nat) (h : j ≤ L.length) : (mkR L j).length = L.length := by simp [mkR]; omega
theorem mkR_zero (L : List Rt) : mkR L 0 = L := by simp [mkR]
theorem mkR_step (L : List Rt) (j : Nat) (h : j < L.length) : (mkR L j).set j (mkAt j) = mkR L (j + 1) := by
  unfold mkR
  rw [List.set_append_right _ _ (by simp), List.range_succ, List.map_append]
  simp
  rw [List.drop_eq_getElem_cons h]
  rfl
theorem mkR_end (L : List Rt) (j : Nat) (hj : j < L.length) : rtAt (mkR L L.length) j = mkAt j := by
  have : j < L.length := hj
  simp [mkR, rtAt, this]
/-- All blocks but a list's own are as they were. -/
structure Oth (v : Value) (w w' : World) : Prop where
  size : w.heap.size ≤ w'.heap.size
  block : ∀ k, v.ownBlock ≠ some k → k < w.heap.size → w'.heap[k]? = w.heap[k]?
theorem Oth.refl (v : Value) (w : World) : Oth v w w := ⟨Nat.le_refl _, fun _ _ _ => rfl⟩
theorem Oth.trans {v : Value} {x y z : World} (h : Oth v x y) (g : Oth v y z) : Oth v x z := ⟨Nat.le_trans h.size g.size, fun k h1 h2 => (g.block k h1 (Nat.lt_of_lt_of_le h2 h.size)).trans (h.block k h1 h2)⟩
theorem Oth.set {g n c : Nat} {x y : World} {o : Nat} {u : Value} (h : Oth (.slice (some ⟨g, 0, none⟩) n c) x y) : Oth (.slice (some ⟨g, 0, none⟩) n c) x (y.setCell ⟨g, o, none⟩ u) :=
  h.trans ⟨by simp [World.setCell], fun k hk _ => Below.heap_setCell _ _ _ _ (by intro e; exact hk (by rw [e]; rfl))⟩

set_option maxHeartbeats 1600000 in
theorem markLists (base : Nat) (a : Option Addr) (cap : Nat) (T : List Rt) (hT : T.length ≤ 1048576) (w : World) (H : Hid (RRow base w (.slice a T.length cap) T)) :
    Calls Try.prog 27 #[.slice a T.length cap, .int .i64 1] w fun e w' => e = .returned (.int .i64 (1 + 3 * (T.length : Int))) ∧ RRow base w' (.slice a T.length cap) (mkR T T.length) ∧ Below base w w' ∧ Oth (.slice a T.length cap) w w' := by
  obtain ⟨len, hlen⟩ : ∃ n, T.length = n := ⟨_, rfl⟩
  have H : Hid (w.ownsRow base 53 3 (.slice a len cap) len (rcells T)) := by
    have h := H.out
    unfold RRow at h
    rw [hlen] at h
    exact h
  rw [hlen] at hT ⊢
  have Hlen : Hid (T.length = len) := hlen
  clear hlen
  go_enter Try.func27, Try.ntmps27
  go_wp2
  go_loopw [1, 5] (fun kk i wr => ∃ (j : Nat) (kv : Int), j ≤ len ∧ i = .int .i64 j ∧ kk = .int .i64 kv ∧ kv = 1 + 3 * (j : Int) ∧ Hid (wr.ownsRow base 53 3 (.slice a len cap) len (rcells (mkR T j)) ∧ Below base w wr ∧ Oth (.slice a len cap) w wr)) (fun _ i _ => len - (intOf i).toNat)
  case atStart => exact ⟨0, 1, Nat.zero_le _, rfl, rfl, by simp, by rw [mkR_zero]; exact H.out, Below.refl _ _, Oth.refl _ _⟩
  case round =>
    obtain ⟨j, kv, hj, rfl, rfl, hkv, H2⟩ := hrel
    have Hkv : Hid (kv = 1 + 3 * (j : Int)) := hkv
    have k0 : 0 ≤ kv := by omega
    have k1 : kv ≤ 3145729 := by omega
    by_cases hlt : j < len
    · obtain ⟨g, ha⟩ : ∃ g, a = some ⟨g, 0, none⟩ := by
        rcases H2.out.1.2 with ⟨e, _⟩ | ⟨g, cap', cur, e, _⟩
        · cases e; omega
        · cases e; exact ⟨g, rfl⟩
      subst ha
      have hput := RRow.put (l := mkR T j) H2.out.1 j (mkAt j)
      rw [mkR_step T j (by rw [Hlen.out]; exact hlt)] at hput
      have em : mkAt j = ⟨kv, kv + 1, kv + 1 + 1⟩ := by rw [hkv, mkAt]; congr 1
      rw [em] at hput
      have hblk := (World.ownsRow.lt H2.out.1 g rfl).1
      have ex : ∀ q, q < len * 3 → ∃ v, wr.cell? ⟨g, q, none⟩ = some v := by
        intro q hq
        rw [H2.out.1.cellAt q hq]
        exact ⟨_, List.getElem?_eq_getElem (by rw [rcells_length, mkR_length T j (by rw [Hlen.out]; omega), Hlen.out]; exact hq)⟩
      obtain ⟨y0, hy0⟩ := ex (j * 3) (by omega)
      obtain ⟨y1, hy1⟩ := ex (j * 3 + 1) (by omega)
      obtain ⟨y2, hy2⟩ := ex (j * 3 + 2) (by omega)
      have z0 := H2.out.1.frozenAt (j * 3)
      have z1 := H2.out.1.frozenAt (j * 3 + 1)
      have z2 := H2.out.1.frozenAt (j * 3 + 2)
      have H3 : Hid (_ ∧ Below base w (((wr.setCell ⟨g, j * 3, none⟩ (.int .i64 kv)).setCell ⟨g, j * 3 + 1, none⟩ (.int .i64 (kv + 1))).setCell ⟨g, j * 3 + 2, none⟩ (.int .i64 (kv + 1 + 1))) ∧ Oth (.slice (some ⟨g, 0, none⟩) len cap) w (((wr.setCell ⟨g, j * 3, none⟩ (.int .i64 kv)).setCell ⟨g, j * 3 + 1, none⟩ (.int .i64 (kv + 1))).setCell ⟨g, j * 3 + 2, none⟩ (.int .i64 (kv + 1 + 1)))) := ⟨hput, ((H2.out.2.1.setCell hblk _).setCell hblk _).setCell hblk _, H2.out.2.2.set.set.set⟩
      clear hput hblk ex hkv em
      go_wp2
      go_roundw
      case rel => exact ⟨j + 1, kv + 3, by omega, by go_num, by go_num, by rw [Hkv.out]; push_cast; omega, H3⟩
      case measure => simp [intOf]; omega
    · obtain rfl : j = len := by omega
      go_wp2
      go_ret
      refine ⟨by rw [← Hkv.out]; rfl, ?_, H2.out.2⟩
      have h := H2.out.1
      unfold RRow
      rw [mkR_length T _ (by rw [Hlen.out]; omega), Hlen.out]
      exact h

set_option maxHeartbeats 1600000 in
theorem heldLists (a : Option Addr) (cap : Nat) (T : List Rt) (hT : T.length ≤ 1048576) (w : World) (H : Hid (RtsAt w a (mkR T T.length))) :
    Calls Try.prog 28 #[.slice a T.length cap, .int .i64 1] w fun e w' => e = .returned (.int .i64 (1 + 3 * (T.length : Int))) ∧ w' = w := by
  have Hc : Hid (∀ j, j < T.length → ∃ b off, a = some ⟨b, off, none⟩ ∧ ∀ kv : Int, kv = 1 + 3 * (j : Int) → w.cell? ⟨b, off + j * 3, none⟩ = some (.int .i64 kv) ∧ w.cell? ⟨b, off + j * 3 + 1, none⟩ = some (.int .i64 (kv + 1)) ∧ w.cell? ⟨b, off + j * 3 + 2, none⟩ = some (.int .i64 (kv + 2))) := by
    show ∀ j, j < T.length → _
    intro j hj
    obtain ⟨b, off, e, _, c0, c1, c2⟩ := H.out j (by rw [mkR_length T _ (Nat.le_refl _)]; exact hj)
    rw [mkR_end T j hj] at c0 c1 c2
    refine ⟨b, off, e, fun kv hkv => ?_⟩
    subst hkv
    exact ⟨c0, c1, c2⟩
  generalize T.length = len at hT Hc ⊢
  clear H
  go_enter Try.func28, Try.ntmps28
  go_wp2
  go_loop [1, 5] (fun kk i => ∃ (j : Nat) (kv : Int), j ≤ len ∧ i = .int .i64 j ∧ kk = .int .i64 kv ∧ kv = 1 + 3 * (j : Int)) (fun _ i => len - (intOf i).toNat)
  case atStart => exact ⟨0, 1, Nat.zero_le _, rfl, rfl, by simp⟩
  case round =>
    obtain ⟨j, kv, hj, rfl, rfl, hkv⟩ := hrel
    have Hkv : Hid (kv = 1 + 3 * (j : Int)) := hkv
    have k0 : 0 ≤ kv := by omega
    have k1 : kv ≤ 3145729 := by omega
    by_cases hlt : j < len
    · obtain ⟨b, off, ha, hc⟩ := Hc.out j hlt
      obtain ⟨c0, c1, c2⟩ := hc kv hkv
      subst ha
      clear hkv hc
      go_wp2
      go_round
      case rel => exact ⟨j + 1, kv + 3, by omega, by go_num, by go_num, by rw [Hkv.out]; push_cast; omega⟩
      case measure => simp [intOf]; omega
    · obtain rfl : j = len := by omega
      clear hkv
      go_wp2
      go_ret
      exact ⟨by rw [← Hkv.out]; rfl, rfl⟩
end Go.Proofs.Ytilnjmpnhadidaa
