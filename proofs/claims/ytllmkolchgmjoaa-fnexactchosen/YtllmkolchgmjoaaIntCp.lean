/-
  The walks of the laws' copies, sizes and comparisons of lists of numbers. By the verifier.
-/
import Derived.Test.YtllmkolchgmjoaaIntEq
import Derived.Test.YtllmkolchgmjoaaQuiet
import Derived.RegionTactic
import Derived.Laws.MakeOwn
namespace Go.Proofs.Ytllmkolchgmjoaa
open Go.RowKit

theorem info2N : (Try.prog.info? 2).map (fun i => (i.zero, i.size, i.bytes)) = some (some (.int .i64 0), 1, 8) := by kernel_rfl
/-- The first k of zs, the others nought. -/
def filledN (zs : List Int) (n k : Nat) : Array Value := ((zs.take k).map (Value.int .i64) ++ List.replicate (n - k) (Value.int .i64 0)).toArray
theorem filled_startN (zs : List Int) (n : Nat) : madeCells #[Value.int .i64 0] n = filledN zs n 0 := by
  have := toList_madeCells_one (.int .i64 0) n
  rw [← Array.toArray_toList (xs := madeCells _ _), this]; simp [filledN]
theorem filled_nextN (zs : List Int) (n k : Nat) (hn : zs.length = n) (hk : k < n) : (filledN zs n k).setIfInBounds k (.int .i64 (zs[k]?.getD 0)) = filledN zs n (k + 1) := by
  subst hn
  unfold filledN
  rw [List.setIfInBounds_toArray, List.set_append_right _ _ (by simp; omega), List.take_succ_eq_append_getElem hk]
  simp only [List.length_map, List.length_take, Nat.min_eq_left (Nat.le_of_lt hk), Nat.sub_self]
  obtain ⟨m, hm⟩ : ∃ m, zs.length - k = m + 1 := ⟨zs.length - k - 1, by omega⟩
  rw [hm, show zs.length - (k + 1) = m by omega, List.replicate_succ, List.set_cons_zero, List.map_append]
  simp only [List.map_cons, List.map_nil, List.append_assoc, List.cons_append, List.nil_append, List.getElem?_eq_getElem hk, Option.getD_some]
theorem filled_endN (zs : List Int) (n : Nat) (hn : zs.length = n) : filledN zs n n = (zs.map (Value.int .i64)).toArray := by
  subst hn; simp [filledN]
theorem filled_sizeN (zs : List Int) (n k : Nat) (hn : zs.length = n) (hk : k ≤ n) : (filledN zs n k).size = n := by
  subst hn; simp [filledN]; omega

set_option maxHeartbeats 1600000 in
theorem toIntsN (a : Option Addr) (cap : Nat) (zs : List Int) (w : World) (hT : zs.length ≤ 1048576) (h : Hid (IntsAt w a zs)) :
    Calls Try.prog 78 #[.slice a zs.length cap] w fun e w' => e = .returned (.slice (some ⟨w.heap.size, 0, none⟩) zs.length zs.length) ∧ w' = w.alloc (.cells (zs.map (Value.int .i64)).toArray 2) := by
  obtain ⟨i0, hi, hz0, hz1, hz2⟩ := info_parts info2N
  obtain ⟨len, hlen⟩ : ∃ n, zs.length = n := ⟨_, rfl⟩
  rw [hlen] at hT ⊢
  have Hlen : Hid (zs.length = len) := hlen
  clear hlen
  have hmk : ∀ wx, (Instr.makeSlice 34 (.int .i64 (len : Int)) (.int .i64 (len : Int))).run Try.prog wx = .ok (.slice (some ⟨wx.heap.size, 0, none⟩) len len) (wx.alloc (.cells (filledN zs len 0) 2)) := by
    intro wx
    have := run_make (P := Try.prog) wx 34 2 i0 (.int .i64 0) Try.underlying34 hi hz0 .i64 .i64 len len (by omega) (by omega) (by rw [hz2]; omega) (by omega)
    rw [this, hz1, ← filled_startN]; simp [Value.cells]
  clear hi hz0 hz1 hz2
  go_enter Try.func78, Try.ntmps78
  go_wp2
  go_loopw [4] (fun i wr => ∃ k : Nat, k ≤ len ∧ i = .int .i64 k ∧ wr = w.alloc (.cells (filledN zs len k) 2)) (fun i _ => len - (intOf i).toNat)
  case atStart => exact ⟨0, Nat.zero_le _, rfl, rfl⟩
  case round =>
    obtain ⟨k, hk, rfl, rfl⟩ := hrel
    by_cases hlt : k < len
    · obtain ⟨b, off, ha, hb, c1⟩ := h.out k (by rw [Hlen.out]; exact hlt)
      subst ha
      have hn := filled_nextN zs len k Hlen.out hlt
      have hs := filled_sizeN zs len k Hlen.out hk
      have hget : ∃ x, (filledN zs len k)[k]? = some x := ⟨_, Array.getElem?_eq_getElem (by omega)⟩
      obtain ⟨x, hx⟩ := hget
      generalize zs[k]?.getD 0 = z at c1 hn
      have Hn : Hid (_ = _) := hn
      clear hn
      generalize filledN zs len k = cs at hs hx Hn ⊢
      go_wp2
      go_roundw
      case rel => exact ⟨k + 1, by omega, by go_num, by rw [← Hn.out]⟩
      case measure => simp [intOf]; omega
    · go_wp2
      go_ret
      obtain rfl : k = len := by omega
      exact ⟨rfl, by rw [filled_endN _ _ Hlen.out]⟩

theorem szIntsN (a : Option Addr) (cap len : Nat) (left : Int) (w : World) (hl : (len : Int) ≤ 9223372036854775807) (l0 : 0 ≤ left) (l1 : left ≤ 1048576) :
    Calls Try.prog 77 #[.slice a len cap, .int .i64 left] w fun e w' => e = .returned (.int .i64 (if left - len < 0 then -1 else left - len)) ∧ w' = w := by
  by_cases h : left - len < 0
  · go_enter Try.func77, Try.ntmps77
    go_wp2
    go_ret
    exact ⟨rfl, rfl⟩
  · go_enter Try.func77, Try.ntmps77
    go_wp2
    go_ret
    exact ⟨rfl, rfl⟩

theorem toIntsR (a : Option Addr) (cap : Nat) (zs : List Int) (w : World) (hT : zs.length ≤ 1048576) (h : Hid (IntsAt w a zs)) :
    Calls Try.prog 78 #[.slice a zs.length cap] w fun e w' => ∃ x, e = .returned (.slice (some ⟨x, 0, none⟩) zs.length zs.length) ∧ IRow w.heap.size w' (.slice (some ⟨x, 0, none⟩) zs.length zs.length) zs ∧ Below w.heap.size w w' :=
  (toIntsN a cap zs w hT h).mono fun e w' hh => by
    obtain ⟨rfl, rfl⟩ := hh
    refine ⟨_, rfl, ?_, (Below.refl _ _).alloc (Nat.le_refl _) _⟩
    have := World.ownsRow_lit (size := 1) (e := 2) (base := w.heap.size) w (zs.map (Value.int .i64)).toArray zs.length (Nat.le_refl _) (by unfold maxLen; omega) (by simp)
    simpa [IRow] using this
end Go.Proofs.Ytllmkolchgmjoaa
