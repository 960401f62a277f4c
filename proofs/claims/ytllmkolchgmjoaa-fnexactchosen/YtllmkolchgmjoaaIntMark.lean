/-
  What the laws do to see whose memory a list of numbers is: numbers put into it and looked for again. By the verifier.
-/
import Derived.Test.YtllmkolchgmjoaaIntRow
import Derived.Test.YtllmkolchgmjoaaOth
namespace Go.Proofs.Ytllmkolchgmjoaa
open Go.RowKit

/-- The first j marked, the others as they were. -/
def mks (k : Int) (T : List Int) (j : Nat) : List Int := (List.range j).map (fun (i : Nat) => k + (i : Int)) ++ T.drop j
theorem mks_length (k : Int) (T : List Int) (j : Nat) (h : j ≤ T.length) : (mks k T j).length = T.length := by simp [mks]; omega
theorem mks_zero (k : Int) (T : List Int) : mks k T 0 = T := by simp [mks]
theorem mks_step (k : Int) (T : List Int) (j : Nat) (h : j < T.length) : (mks k T j).set j (k + (j : Int)) = mks k T (j + 1) := by
  unfold mks
  rw [List.set_append_right _ _ (by simp), List.range_succ, List.map_append]
  simp
  rw [List.drop_eq_getElem_cons h]
  rfl
theorem mks_end (k : Int) (T : List Int) (j : Nat) (hj : j < T.length) : (mks k T T.length)[j]?.getD 0 = k + (j : Int) := by
  have : j < T.length := hj
  simp [mks, this]

set_option maxHeartbeats 1600000 in
theorem markInts (base : Nat) (a : Option Addr) (cap : Nat) (T : List Int) (hT : T.length ≤ 1048576) (w : World) (H : Hid (IRow base w (.slice a T.length cap) T)) :
    Calls Try.prog 73 #[.slice a T.length cap, .int .i64 1] w fun e w' => e = .returned (.int .i64 (1 + (T.length : Int))) ∧ IRow base w' (.slice a T.length cap) (mks 1 T T.length) ∧ Below base w w' ∧ Oth (.slice a T.length cap) w w' := by
  obtain ⟨len, hlen⟩ : ∃ n, T.length = n := ⟨_, rfl⟩
  have H : Hid (w.ownsRow base 2 1 (.slice a len cap) len (T.map (Value.int .i64))) := by
    have h := H.out
    unfold IRow at h
    rw [hlen] at h
    exact h
  rw [hlen] at hT ⊢
  have Hlen : Hid (T.length = len) := hlen
  clear hlen
  go_enter Try.func73, Try.ntmps73
  go_wp2
  go_loopw [1, 5] (fun kk i wr => ∃ j : Nat, j ≤ len ∧ i = .int .i64 j ∧ kk = .int .i64 (1 + (j : Int)) ∧ Hid (wr.ownsRow base 2 1 (.slice a len cap) len ((mks 1 T j).map (Value.int .i64)) ∧ Below base w wr ∧ Oth (.slice a len cap) w wr)) (fun _ i _ => len - (intOf i).toNat)
  case atStart => exact ⟨0, Nat.zero_le _, rfl, by simp, by rw [mks_zero]; exact H.out, Below.refl _ _, Oth.refl _ _⟩
  case round =>
    obtain ⟨j, hj, rfl, rfl, H2⟩ := hrel
    by_cases hlt : j < len
    · obtain ⟨g, ha⟩ : ∃ g, a = some ⟨g, 0, none⟩ := by
        rcases H2.out.1.2 with ⟨e, _⟩ | ⟨g, cap', cur, e, _⟩
        · cases e; omega
        · cases e; exact ⟨g, rfl⟩
      subst ha
      have hst := H2.out.1.stored j (.int .i64 (1 + (j : Int)))
      have hm : (((mks 1 T j).map (Value.int .i64)).set j (.int .i64 (1 + (j : Int)))) = (mks 1 T (j + 1)).map (Value.int .i64) := by
        rw [← mks_step 1 T j (by rw [Hlen.out]; exact hlt), List.map_set]
      rw [hm] at hst
      have hfz := H2.out.1.frozenAt j
      obtain ⟨cv, hcv⟩ : ∃ v, wr.cell? ⟨g, j, none⟩ = some v := by
        have := H2.out.1.cellAt j (by omega)
        rw [this]
        exact ⟨_, List.getElem?_eq_getElem (by rw [List.length_map, mks_length 1 T j (by rw [Hlen.out]; omega), Hlen.out]; exact hlt)⟩
      have hblk := (World.ownsRow.lt H2.out.1 g rfl).1
      have H3 : Hid (_ ∧ Below base w (wr.setCell ⟨g, j, none⟩ (.int .i64 (1 + (j : Int)))) ∧ Oth (.slice (some ⟨g, 0, none⟩) len cap) w (wr.setCell ⟨g, j, none⟩ (.int .i64 (1 + (j : Int))))) := ⟨hst.1, H2.out.2.1.setCell hblk _, H2.out.2.2.trans ⟨by simp [World.setCell], fun k hk _ => Below.heap_setCell _ _ _ _ (by intro e; exact hk (by rw [e]; rfl))⟩⟩
      clear hst hm hblk
      go_wp2
      go_roundw
      case rel => exact ⟨j + 1, by omega, by go_num, by go_num, H3⟩
      case measure => simp [intOf]; omega
    · obtain rfl : j = len := by omega
      go_wp2
      go_ret
      refine ⟨rfl, ?_, H2.out.2⟩
      have h := H2.out.1
      unfold IRow
      rw [mks_length 1 T _ (by rw [Hlen.out]; omega), Hlen.out]
      exact h

set_option maxHeartbeats 1600000 in
theorem heldInts (a : Option Addr) (cap : Nat) (T : List Int) (hT : T.length ≤ 1048576) (w : World) (H : Hid (IntsAt w a (mks 1 T T.length))) :
    Calls Try.prog 74 #[.slice a T.length cap, .int .i64 1] w fun e w' => e = .returned (.int .i64 (1 + (T.length : Int))) ∧ w' = w := by
  have Hc : Hid (∀ j, j < T.length → ∃ b off, a = some ⟨b, off, none⟩ ∧ w.cell? ⟨b, off + j, none⟩ = some (.int .i64 (1 + (j : Int)))) := by
    show ∀ j, j < T.length → ∃ b off, a = some ⟨b, off, none⟩ ∧ w.cell? ⟨b, off + j, none⟩ = some (.int .i64 (1 + (j : Int)))
    intro j hj
    obtain ⟨b, off, e, _, hc⟩ := H.out j (by rw [mks_length 1 T _ (Nat.le_refl _)]; exact hj)
    rw [mks_end 1 T j hj] at hc
    exact ⟨b, off, e, hc⟩
  generalize T.length = len at hT Hc ⊢
  clear H
  go_enter Try.func74, Try.ntmps74
  go_wp2
  go_loop [1, 5] (fun kk i => ∃ j : Nat, j ≤ len ∧ i = .int .i64 j ∧ kk = .int .i64 (1 + (j : Int))) (fun _ i => len - (intOf i).toNat)
  case atStart => exact ⟨0, Nat.zero_le _, rfl, by simp⟩
  case round =>
    obtain ⟨j, hj, rfl, rfl⟩ := hrel
    by_cases hlt : j < len
    · obtain ⟨b, off, ha, hc⟩ := Hc.out j hlt
      subst ha
      go_wp2
      go_round
      case rel => exact ⟨j + 1, by omega, by go_num, by go_num⟩
      case measure => simp [intOf]; omega
    · obtain rfl : j = len := by omega
      go_wp2
      go_ret
      exact ⟨rfl, rfl⟩
end Go.Proofs.Ytllmkolchgmjoaa
