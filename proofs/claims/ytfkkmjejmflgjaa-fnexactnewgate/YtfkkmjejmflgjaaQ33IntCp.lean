import Derived.Test.YtfkkmjejmflgjaaQ5FwPlain
import Derived.Test.YtfkkmjejmflgjaaQ11Quiet
import Derived.RegionTactic
import Derived.Test.YtfkkmjejmflgjaaQ28IzMark
import Derived.Test.YtfkkmjejmflgjaaQ2SsV
import Derived.Laws.MakeOwn
/-
  The walk of the laws' comparison of lists of numbers. By the verifier.
-/
namespace Go.Proofs.Ytfkkmjejmflgjaa
open Go.RowKit

set_option maxHeartbeats 1600000 in
theorem eqIntsN (a1 a2 : Option Addr) (cap1 cap2 : Nat) (zs : List Int) (w : World) (hT : zs.length ≤ 1048576) (h1 : Hid (IntsAt w a1 zs)) (h2 : Hid (IntsAt w a2 zs)) :
    Calls Try.prog 12 #[.slice a1 zs.length cap1, .slice a2 zs.length cap2] w fun e w' => e = .returned (.bool true) ∧ Below w.heap.size w w' := by
  obtain ⟨len, hlen⟩ : ∃ n, zs.length = n := ⟨_, rfl⟩
  rw [hlen] at hT ⊢
  have Hlen : Hid (zs.length = len) := hlen
  clear hlen
  go_enter Try.func12, Try.ntmps12
  go_wp2
  go_loopw [5] (fun i wr => ∃ k : Nat, k ≤ len ∧ i = .int .i64 k ∧ Hid (Below w.heap.size w wr)) (fun i _ => len - (intOf i).toNat)
  case atStart => exact ⟨0, Nat.zero_le _, rfl, Below.refl _ _⟩
  case round =>
    obtain ⟨k, hk, rfl, hb⟩ := hrel
    by_cases hlt : k < len
    · obtain ⟨b1, o1, ha1, hb1, c1⟩ := (h1.out.below hb.out) k (by rw [Hlen.out]; exact hlt)
      obtain ⟨b2, o2, ha2, hb2, c2⟩ := (h2.out.below hb.out) k (by rw [Hlen.out]; exact hlt)
      subst ha1; subst ha2
      generalize zs[k]?.getD 0 = z at c1 c2
      have hlt' : (k : Int) < (len : Int) := by omega
      go_wp2
      go_region
      go_wp2
      go_roundw
      case rel => exact ⟨k + 1, by omega, by go_num, hb.out.drew⟩
      case measure => simp [intOf]; omega
    · go_wp2
      go_ret
      exact ⟨rfl, hb.out⟩

end Go.Proofs.Ytfkkmjejmflgjaa

/-
  Lists of numbers that lie wherever: read, numbers put in and looked for, from any number on. By the verifier.
-/
namespace Go.Proofs.Ytfkkmjejmflgjaa
open Go.RowKit

set_option maxHeartbeats 3200000 in
set_option maxRecDepth 100000 in
theorem markIntsG (s : Int) (s0 : 0 ≤ s) (s1 : s ≤ 1099511627776) (b t : Nat) (v : Value) (T : List Int) (hT : T.length ≤ 1048576) (w : World) (H : Hid (IntIn b t w v T)) :
    Calls Try.prog 14 #[v, .int .i64 s] w fun e w' => e = .returned (.int .i64 (s + (T.length : Int))) ∧ IntIn b t w' v (mks s T T.length) ∧ Turn (Hits v T.length) w w' := by
  obtain ⟨a, cap, rfl⟩ := SlIn.shape H.out
  obtain ⟨len, hlen⟩ : ∃ n, T.length = n := ⟨_, rfl⟩
  have H : Hid (SlIn b t w (.slice a len cap) len (T.map (Value.int .i64))) := by
    have h := H.out
    unfold IntIn at h
    rw [hlen] at h
    exact h
  rw [hlen] at hT ⊢
  have Hlen : Hid (T.length = len) := hlen
  have Hcl : Hid (∀ j, j ≤ len → ((mks s T j).map (Value.int .i64)).length = len) := fun j hj => by rw [List.length_map, mks_length s T j (by rw [Hlen.out]; exact hj), Hlen.out]
  clear hlen
  go_enter Try.func14, Try.ntmps14
  go_wp2
  go_loopw [1, 5] (fun kk i wr => ∃ (j : Nat) (kv : Int), j ≤ len ∧ i = .int .i64 j ∧ kk = .int .i64 kv ∧ kv = s + (j : Int) ∧ Hid (SlIn b t wr (.slice a len cap) len ((mks s T j).map (Value.int .i64)) ∧ Turn (Hits (.slice a len cap) len) w wr)) (fun _ i _ => len - (intOf i).toNat)
  case atStart => exact ⟨0, s, Nat.zero_le _, rfl, rfl, by simp, by rw [mks_zero]; exact H.out, Turn.refl _ _⟩
  case round =>
    obtain ⟨j, kv, hj, rfl, rfl, hkv, H2⟩ := hrel
    have Hkv : Hid (kv = s + (j : Int)) := hkv
    have k0 : 0 ≤ kv := by omega
    have k1 : kv ≤ 1099514773504 := by omega
    by_cases hlt : j < len
    · have hcl := Hcl.out j hj
      obtain ⟨g, off, ha, h1, h2, h3⟩ := SlIn.some H2.out.1 (by intro e; rw [e] at hcl; simp at hcl; omega)
      subst ha
      have hput := SlIn.put H2.out.1 j (by omega) (.int .i64 kv)
      have hm : (((mks s T j).map (Value.int .i64)).set j (.int .i64 kv)) = (mks s T (j + 1)).map (Value.int .i64) := by
        rw [← mks_step s T j (by rw [Hlen.out]; exact hlt), List.map_set, hkv]
      rw [hm] at hput
      have z0 := (SlIn.cells H2.out.1 j (by omega)).2
      have y0 := (SlIn.cells H2.out.1 j (by omega)).1
      have H3 : Hid (SlIn b t (wr.setCell ⟨g, off + j, none⟩ (.int .i64 kv)) (.slice (some ⟨g, off, none⟩) len cap) len ((mks s T (j + 1)).map (Value.int .i64)) ∧ Turn (Hits (.slice (some ⟨g, off, none⟩) len cap) len) w (wr.setCell ⟨g, off + j, none⟩ (.int .i64 kv))) := by
        refine ⟨hput, H2.out.2.trans ((turn_set _ _ _ _).wide ?_)⟩
        rintro k o ⟨rfl, rfl⟩
        exact ⟨off, len, cap, rfl, by omega, by omega⟩
      generalize ((mks s T j).map (Value.int .i64))[j]?.getD undef = u0 at y0
      clear hput hm hkv hcl h1 h2 h3
      go_wp2
      go_roundw
      case rel => exact ⟨j + 1, kv + 1, by omega, by go_num, by go_num, by rw [Hkv.out]; push_cast; omega, H3⟩
      case measure => simp [intOf]; omega
    · obtain rfl : j = len := by omega
      go_wp2
      go_ret
      refine ⟨by rw [← Hkv.out]; rfl, ?_, H2.out.2⟩
      have h := H2.out.1
      unfold IntIn
      rw [mks_length s T _ (by rw [Hlen.out]; omega), Hlen.out]
      exact h

set_option maxHeartbeats 1600000 in
theorem heldIntsF (s : Int) (s0 : 0 ≤ s) (s1 : s ≤ 1099511627776) (a : Option Addr) (cap : Nat) (T : List Int) (hT : T.length ≤ 1048576) (w : World) (H : Hid (IntsAt w a (mks s T T.length))) :
    Calls Try.prog 41 #[.slice a T.length cap, .int .i64 s] w fun e w' => e = .returned (.int .i64 (s + (T.length : Int))) ∧ w' = w := by
  have Hc : Hid (∀ j, j < T.length → ∃ b off, a = some ⟨b, off, none⟩ ∧ w.cell? ⟨b, off + j, none⟩ = some (.int .i64 (s + (j : Int)))) := by
    show ∀ j, j < T.length → ∃ b off, a = some ⟨b, off, none⟩ ∧ w.cell? ⟨b, off + j, none⟩ = some (.int .i64 (s + (j : Int)))
    intro j hj
    obtain ⟨b, off, e, _, hc⟩ := H.out j (by rw [mks_length s T _ (Nat.le_refl _)]; exact hj)
    rw [mks_end s T j hj] at hc
    exact ⟨b, off, e, hc⟩
  generalize T.length = len at hT Hc ⊢
  clear H
  go_enter Try.func41, Try.ntmps41
  go_wp2
  go_loop [1, 5] (fun kk i => ∃ (j : Nat) (kv : Int), j ≤ len ∧ i = .int .i64 j ∧ kk = .int .i64 kv ∧ Hid (kv = s + (j : Int)) ∧ 0 ≤ kv ∧ kv ≤ 1099514773504) (fun _ i => len - (intOf i).toNat)
  case atStart => exact ⟨0, s, Nat.zero_le _, rfl, rfl, by show s = s + ((0 : Nat) : Int); simp, s0, by omega⟩
  case round =>
    obtain ⟨j, kv, hj, rfl, rfl, hkv, k0, k1⟩ := hrel
    by_cases hlt : j < len
    · obtain ⟨b, off, ha, hc⟩ := Hc.out j hlt
      subst ha
      rw [← hkv.out] at hc
      have k2 : kv + 1 ≤ 1099514773504 := by have := hkv.out; omega
      go_wp2
      go_round
      case rel => exact ⟨j + 1, kv + 1, by omega, by go_num, by go_num, by show kv + 1 = s + ((j + 1 : Nat) : Int); have := hkv.out; push_cast; omega, by omega, k2⟩
      case measure => simp [intOf]; omega
    · obtain rfl : j = len := by omega
      go_wp2
      go_ret
      exact ⟨by rw [← hkv.out]; rfl, rfl⟩
end Go.Proofs.Ytfkkmjejmflgjaa

/-
  Lists of numbers as values with memory: what the laws' own functions do on them, in the form that records with memory have. By the verifier.
-/
namespace Go.Proofs.Ytfkkmjejmflgjaa
open Go.RowKit

theorem eqIntW (v1 v2 : Value) (l : List Int) (w : World) (hT : l.length ≤ 1048576) (h1 : Hid (IntsV w v1 l)) (h2 : Hid (IntsV w v2 l)) :
    Calls Try.prog 12 #[v1, v2] w fun e w' => e = .returned (.bool true) ∧ Below w.heap.size w w' := by
  obtain ⟨a1, c1, rfl, k1, _⟩ := h1.out
  obtain ⟨a2, c2, rfl, k2, _⟩ := h2.out
  exact eqIntsN a1 a2 c1 c2 l w hT k1 k2
end Go.Proofs.Ytfkkmjejmflgjaa

/-
  The walks of the laws' copies, sizes and comparisons of lists of numbers. By the verifier.
-/
namespace Go.Proofs.Ytfkkmjejmflgjaa
open Go.RowKit

theorem info2N : (Try.prog.info? 2).map (fun i => (i.zero, i.size, i.bytes)) = some (some (.int .i64 0), 1, 8) := by kernel_rfl
/-- The first k of zs, the others nought. -/
def filledN (zs : List Int) (n k : Nat) : Array Value := ((zs.take k).map (Value.int .i64) ++ List.replicate (n - k) (Value.int .i64 0)).toArray
theorem filled_startN (zs : List Int) (n : Nat) : madeCells #[Value.int .i64 0] n = filledN zs n 0 := by
  have := toList_madeCells_one (.int .i64 0) n
  rw [← Array.toArray_toList (xs := madeCells _ _), this]; simp [filledN]
theorem filled_nextN (zs : List Int) (n k : Nat) (hn : zs.length = n) (hk : k < n) : (filledN zs n k).setIfInBounds k (.int .i64 (zs[k]?.getD 0)) = filledN zs n (k + 1) := by
  subst hn
  unfold filledN
  rw [List.setIfInBounds_toArray, List.set_append_right _ _ (by simp; omega), List.take_succ_eq_append_getElem hk]
  simp only [List.length_map, List.length_take, Nat.min_eq_left (Nat.le_of_lt hk), Nat.sub_self]
  obtain ⟨m, hm⟩ : ∃ m, zs.length - k = m + 1 := ⟨zs.length - k - 1, by omega⟩
  rw [hm, show zs.length - (k + 1) = m by omega, List.replicate_succ, List.set_cons_zero, List.map_append]
  simp only [List.map_cons, List.map_nil, List.append_assoc, List.cons_append, List.nil_append, List.getElem?_eq_getElem hk, Option.getD_some]
theorem filled_endN (zs : List Int) (n : Nat) (hn : zs.length = n) : filledN zs n n = (zs.map (Value.int .i64)).toArray := by
  subst hn; simp [filledN]
theorem filled_sizeN (zs : List Int) (n k : Nat) (hn : zs.length = n) (hk : k ≤ n) : (filledN zs n k).size = n := by
  subst hn; simp [filledN]; omega

set_option maxHeartbeats 1600000 in
theorem toIntsN (a : Option Addr) (cap : Nat) (zs : List Int) (w : World) (hT : zs.length ≤ 1048576) (h : Hid (IntsAt w a zs)) :
    Calls Try.prog 8 #[.slice a zs.length cap] w fun e w' => e = .returned (.slice (some ⟨w.heap.size, 0, none⟩) zs.length zs.length) ∧ w' = w.alloc (.cells (zs.map (Value.int .i64)).toArray 2) := by
  obtain ⟨i0, hi, hz0, hz1, hz2⟩ := info_parts info2N
  obtain ⟨len, hlen⟩ : ∃ n, zs.length = n := ⟨_, rfl⟩
  rw [hlen] at hT ⊢
  have Hlen : Hid (zs.length = len) := hlen
  clear hlen
  have hmk : ∀ wx, (Instr.makeSlice 25 (.int .i64 (len : Int)) (.int .i64 (len : Int))).run Try.prog wx = .ok (.slice (some ⟨wx.heap.size, 0, none⟩) len len) (wx.alloc (.cells (filledN zs len 0) 2)) := by
    intro wx
    have := run_make (P := Try.prog) wx 25 2 i0 (.int .i64 0) Try.underlying25 hi hz0 .i64 .i64 len len (by omega) (by omega) (by rw [hz2]; omega) (by omega)
    rw [this, hz1, ← filled_startN]; simp [Value.cells]
  clear hi hz0 hz1 hz2
  go_enter Try.func8, Try.ntmps8
  go_wp2
  go_loopw [4] (fun i wr => ∃ k : Nat, k ≤ len ∧ i = .int .i64 k ∧ wr = w.alloc (.cells (filledN zs len k) 2)) (fun i _ => len - (intOf i).toNat)
  case atStart => exact ⟨0, Nat.zero_le _, rfl, rfl⟩
  case round =>
    obtain ⟨k, hk, rfl, rfl⟩ := hrel
    by_cases hlt : k < len
    · obtain ⟨b, off, ha, hb, c1⟩ := h.out k (by rw [Hlen.out]; exact hlt)
      subst ha
      have hn := filled_nextN zs len k Hlen.out hlt
      have hs := filled_sizeN zs len k Hlen.out hk
      have hget : ∃ x, (filledN zs len k)[k]? = some x := ⟨_, Array.getElem?_eq_getElem (by omega)⟩
      obtain ⟨x, hx⟩ := hget
      generalize zs[k]?.getD 0 = z at c1 hn
      have Hn : Hid (_ = _) := hn
      clear hn
      generalize filledN zs len k = cs at hs hx Hn ⊢
      go_wp2
      go_roundw
      case rel => exact ⟨k + 1, by omega, by go_num, by rw [← Hn.out]⟩
      case measure => simp [intOf]; omega
    · go_wp2
      go_ret
      obtain rfl : k = len := by omega
      exact ⟨rfl, by rw [filled_endN _ _ Hlen.out]⟩

theorem toIntsR (a : Option Addr) (cap : Nat) (zs : List Int) (w : World) (hT : zs.length ≤ 1048576) (h : Hid (IntsAt w a zs)) :
    Calls Try.prog 8 #[.slice a zs.length cap] w fun e w' => ∃ x, e = .returned (.slice (some ⟨x, 0, none⟩) zs.length zs.length) ∧ IRow w.heap.size w' (.slice (some ⟨x, 0, none⟩) zs.length zs.length) zs ∧ Below w.heap.size w w' :=
  (toIntsN a cap zs w hT h).mono fun e w' hh => by
    obtain ⟨rfl, rfl⟩ := hh
    refine ⟨_, rfl, ?_, (Below.refl _ _).alloc (Nat.le_refl _) _⟩
    have := World.ownsRow_lit (size := 1) (e := 2) (base := w.heap.size) w (zs.map (Value.int .i64)).toArray zs.length (Nat.le_refl _) (by unfold maxLen; omega) (by simp)
    simpa [IRow] using this
end Go.Proofs.Ytfkkmjejmflgjaa
