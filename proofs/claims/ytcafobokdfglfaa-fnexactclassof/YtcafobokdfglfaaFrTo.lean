/-
  The walks of the laws' copies of lists and frames, and of their sizes. By the verifier.
-/
import Derived.Test.YtcafobokdfglfaaFrEq
namespace Go.Proofs.Ytcafobokdfglfaa
open Go.RowKit

theorem info2 : (Try.prog.info? 2).map (fun i => (i.zero, i.size, i.bytes)) = some (some (.int .i64 0), 1, 8) := by kernel_rfl
/-- The first k of zs, the others nought. -/
def filled (zs : List Int) (n k : Nat) : Array Value := ((zs.take k).map (Value.int .i64) ++ List.replicate (n - k) (Value.int .i64 0)).toArray
theorem filled_start (zs : List Int) (n : Nat) : madeCells #[Value.int .i64 0] n = filled zs n 0 := by
  have := toList_madeCells_one (.int .i64 0) n
  rw [← Array.toArray_toList (xs := madeCells _ _), this]; simp [filled]
theorem filled_next (zs : List Int) (n k : Nat) (hn : zs.length = n) (hk : k < n) : (filled zs n k).setIfInBounds k (.int .i64 (zs[k]?.getD 0)) = filled zs n (k + 1) := by
  subst hn
  unfold filled
  rw [List.setIfInBounds_toArray, List.set_append_right _ _ (by simp; omega), List.take_succ_eq_append_getElem hk]
  simp only [List.length_map, List.length_take, Nat.min_eq_left (Nat.le_of_lt hk), Nat.sub_self]
  obtain ⟨m, hm⟩ : ∃ m, zs.length - k = m + 1 := ⟨zs.length - k - 1, by omega⟩
  rw [hm, show zs.length - (k + 1) = m by omega, List.replicate_succ, List.set_cons_zero, List.map_append]
  simp only [List.map_cons, List.map_nil, List.append_assoc, List.cons_append, List.nil_append, List.getElem?_eq_getElem hk, Option.getD_some]
theorem filled_end (zs : List Int) (n : Nat) (hn : zs.length = n) : filled zs n n = (zs.map (Value.int .i64)).toArray := by
  subst hn; simp [filled]
theorem filled_size (zs : List Int) (n k : Nat) (hn : zs.length = n) (hk : k ≤ n) : (filled zs n k).size = n := by
  subst hn; simp [filled]; omega

set_option maxHeartbeats 1600000 in
theorem toInts (a : Option Addr) (cap : Nat) (zs : List Int) (w : World) (hT : zs.length ≤ 1048576) (h : Hid (IntsAt w a zs)) :
    Calls Try.prog 39 #[.slice a zs.length cap] w fun e w' => e = .returned (.slice (some ⟨w.heap.size, 0, none⟩) zs.length zs.length) ∧ w' = w.alloc (.cells (zs.map (Value.int .i64)).toArray 2) := by
  obtain ⟨i0, hi, hz0, hz1, hz2⟩ := info_parts info2
  obtain ⟨len, hlen⟩ : ∃ n, zs.length = n := ⟨_, rfl⟩
  rw [hlen] at hT ⊢
  have Hlen : Hid (zs.length = len) := hlen
  clear hlen
  have hmk : ∀ wx, (Instr.makeSlice 31 (.int .i64 (len : Int)) (.int .i64 (len : Int))).run Try.prog wx = .ok (.slice (some ⟨wx.heap.size, 0, none⟩) len len) (wx.alloc (.cells (filled zs len 0) 2)) := by
    intro wx
    have := run_make (P := Try.prog) wx 31 2 i0 (.int .i64 0) Try.underlying31 hi hz0 .i64 .i64 len len (by omega) (by omega) (by rw [hz2]; omega) (by omega)
    rw [this, hz1, ← filled_start]; simp [Value.cells]
  clear hi hz0 hz1 hz2
  go_enter Try.func39, Try.ntmps39
  go_wp2
  go_loopw [4] (fun i wr => ∃ k : Nat, k ≤ len ∧ i = .int .i64 k ∧ wr = w.alloc (.cells (filled zs len k) 2)) (fun i _ => len - (intOf i).toNat)
  case atStart => exact ⟨0, Nat.zero_le _, rfl, rfl⟩
  case round =>
    obtain ⟨k, hk, rfl, rfl⟩ := hrel
    by_cases hlt : k < len
    · obtain ⟨b, off, ha, hb, c1⟩ := h.out k (by rw [Hlen.out]; exact hlt)
      subst ha
      have hn := filled_next zs len k Hlen.out hlt
      have hs := filled_size zs len k Hlen.out hk
      have hget : ∃ x, (filled zs len k)[k]? = some x := ⟨_, Array.getElem?_eq_getElem (by omega)⟩
      obtain ⟨x, hx⟩ := hget
      generalize zs[k]?.getD 0 = z at c1 hn
      have Hn : Hid (_ = _) := hn
      clear hn
      generalize filled zs len k = cs at hs hx Hn ⊢
      go_wp2
      go_roundw
      case rel => exact ⟨k + 1, by omega, by go_num, by rw [← Hn.out]⟩
      case measure => simp [intOf]; omega
    · go_wp2
      go_ret
      obtain rfl : k = len := by omega
      exact ⟨rfl, by rw [filled_end _ _ Hlen.out]⟩
theorem ints_made (w : World) (B : Nat) (hB : B = w.heap.size) (zs : List Int) : IntsAt (w.alloc (.cells (zs.map (Value.int .i64)).toArray 2)) (some ⟨B, 0, none⟩) zs := ints_new _ _ _ _ _ hB rfl

theorem szInts (a : Option Addr) (cap len : Nat) (left : Int) (w : World) (hl : (len : Int) ≤ 9223372036854775807) (l0 : 0 ≤ left) (l1 : left ≤ 1048576) :
    Calls Try.prog 36 #[.slice a len cap, .int .i64 left] w fun e w' => e = .returned (.int .i64 (if left - len < 0 then -1 else left - len)) ∧ w' = w := by
  by_cases h : left - len < 0
  · go_enter Try.func36, Try.ntmps36
    go_wp2
    go_ret
    exact ⟨rfl, rfl⟩
  · go_enter Try.func36, Try.ntmps36
    go_wp2
    go_ret
    exact ⟨rfl, rfl⟩

set_option maxHeartbeats 1600000 in
theorem szFrames (f : Fr) (a : Option Addr) (cap : Nat) (w : World) (hl : (f.tags.length : Int) ≤ 9223372036854775807) (hB : (f.body.size : Int) ≤ 9223372036854775807) :
    Calls Try.prog 14 #[f.val a cap, .int .i64 1048576] w fun e w' => ∃ n : Int, e = .returned (.int .i64 n) ∧ (0 ≤ n → f.tags.length ≤ 1048576 ∧ f.body.size ≤ 1048576) ∧ Below w.heap.size w w' := by
  obtain ⟨to, frm, tags, src, dst, proto, sport, dport, mark, sum, body⟩ := f
  simp only [Fr.val] at hl hB ⊢
  generalize tags.length = len at hl ⊢
  go_enter Try.func14, Try.ntmps14
  go_wp2_with fail
  refine (szInts a cap len 1048576 _ hl (by decide) (by decide)).mono ?_
  rintro e w2 ⟨rfl, rfl⟩
  by_cases h : (1048576 : Int) - len < 0
  · rw [if_pos h]
    go_wp2
    go_ret
    exact ⟨_, rfl, fun h => by omega, bel_alloc (Below.refl _ _) (Nat.le_refl _) _⟩
  · rw [if_neg h]
    by_cases h2 : (1048576 : Int) - len - body.size < 0
    · go_wp2
      go_ret
      exact ⟨_, rfl, fun h => by omega, bel_alloc (Below.refl _ _) (Nat.le_refl _) _⟩
    · go_wp2
      go_ret
      exact ⟨_, rfl, fun h => by omega, bel_alloc (Below.refl _ _) (Nat.le_refl _) _⟩

set_option maxHeartbeats 3200000 in
set_option maxRecDepth 100000 in
theorem toFrames (f : Fr) (a : Option Addr) (cap : Nat) (w : World) (hT : f.tags.length ≤ 1048576) (hc : Hid (IntsAt w a f.tags)) :
    Calls Try.prog 17 #[f.val a cap] w fun e w' => ∃ b, e = .returned (f.val (some ⟨b, 0, none⟩) f.tags.length) ∧ IntsAt w' (some ⟨b, 0, none⟩) f.tags ∧ Below w.heap.size w w' := by
  obtain ⟨to, frm, tags, src, dst, proto, sport, dport, mark, sum, body⟩ := f
  have F := fun w1 (g1 : Hid (IntsAt w1 a tags)) => toInts a cap tags w1 hT g1
  simp only [Fr.val] at hT hc ⊢
  obtain ⟨len, hlen⟩ : ∃ n, tags.length = n := ⟨_, rfl⟩
  rw [hlen] at hT ⊢
  simp only [hlen] at F
  have F' : Hid _ := F
  clear hlen F
  go_enter Try.func17, Try.ntmps17
  go_wp2_with fail
  refine (F'.out _ (((hc.out.alloc _).alloc _).alloc _)).mono ?_
  rintro e w2 ⟨rfl, rfl⟩
  go_wp2
  refine bodyPost_ret (v := .agg #[.int .i64 to, .int .i64 frm, .slice (some ⟨w.heap.size + 1 + 1 + 1, 0, none⟩) len len, .int .i64 src, .int .i64 dst, .int .i64 proto, .int .i64 sport, .int .i64 dport, .int .i64 mark, .int .i64 sum, .string body]) (by simp [results, Try.results17, go_sem]) rfl ⟨_, rfl, ?_, ?_⟩
  · exact ints_made _ _ (by simp) _
  · repeat (first | exact Below.refl _ _ | refine bel_alloc ?_ (Nat.le_refl _) _)
end Go.Proofs.Ytcafobokdfglfaa
