/-
  Lists of numbers that lie wherever: read, numbers put in and looked for, from any number on. By the verifier.
-/
import Derived.Test.YtllmkolchgmjoaaM5IntMark
import Derived.Test.YtllmkolchgmjoaaSlIn
import Derived.Test.YtllmkolchgmjoaaM0IntLie
namespace Go.Proofs.Ytllmkolchgmjoaa
open Go.RowKit

theorem mks_at (k : Int) (T : List Int) (j : Nat) (hj : j < T.length) : (mks k T T.length)[j]?.getD 0 = k + (j : Int) := mks_end k T j hj

set_option maxHeartbeats 3200000 in
set_option maxRecDepth 100000 in
theorem markIntsG (s : Int) (s0 : 0 ≤ s) (s1 : s ≤ 1099511627776) (b t : Nat) (v : Value) (T : List Int) (hT : T.length ≤ 1048576) (w : World) (H : Hid (IntIn b t w v T)) :
    Calls Try.prog 73 #[v, .int .i64 s] w fun e w' => e = .returned (.int .i64 (s + (T.length : Int))) ∧ IntIn b t w' v (mks s T T.length) ∧ Turn (Hits v T.length) w w' := by
  obtain ⟨a, cap, rfl⟩ := SlIn.shape H.out
  obtain ⟨len, hlen⟩ : ∃ n, T.length = n := ⟨_, rfl⟩
  have H : Hid (SlIn b t w (.slice a len cap) len (T.map (Value.int .i64))) := by
    have h := H.out
    unfold IntIn at h
    rw [hlen] at h
    exact h
  rw [hlen] at hT ⊢
  have Hlen : Hid (T.length = len) := hlen
  have Hcl : Hid (∀ j, j ≤ len → ((mks s T j).map (Value.int .i64)).length = len) := fun j hj => by rw [List.length_map, mks_length s T j (by rw [Hlen.out]; exact hj), Hlen.out]
  clear hlen
  go_enter Try.func73, Try.ntmps73
  go_wp2
  go_loopw [1, 5] (fun kk i wr => ∃ (j : Nat) (kv : Int), j ≤ len ∧ i = .int .i64 j ∧ kk = .int .i64 kv ∧ kv = s + (j : Int) ∧ Hid (SlIn b t wr (.slice a len cap) len ((mks s T j).map (Value.int .i64)) ∧ Turn (Hits (.slice a len cap) len) w wr)) (fun _ i _ => len - (intOf i).toNat)
  case atStart => exact ⟨0, s, Nat.zero_le _, rfl, rfl, by simp, by rw [mks_zero]; exact H.out, Turn.refl _ _⟩
  case round =>
    obtain ⟨j, kv, hj, rfl, rfl, hkv, H2⟩ := hrel
    have Hkv : Hid (kv = s + (j : Int)) := hkv
    have k0 : 0 ≤ kv := by omega
    have k1 : kv ≤ 1099514773504 := by omega
    by_cases hlt : j < len
    · have hcl := Hcl.out j hj
      obtain ⟨g, off, ha, h1, h2, h3⟩ := SlIn.some H2.out.1 (by intro e; rw [e] at hcl; simp at hcl; omega)
      subst ha
      have hput := SlIn.put H2.out.1 j (by omega) (.int .i64 kv)
      have hm : (((mks s T j).map (Value.int .i64)).set j (.int .i64 kv)) = (mks s T (j + 1)).map (Value.int .i64) := by
        rw [← mks_step s T j (by rw [Hlen.out]; exact hlt), List.map_set, hkv]
      rw [hm] at hput
      have z0 := (SlIn.cells H2.out.1 j (by omega)).2
      have y0 := (SlIn.cells H2.out.1 j (by omega)).1
      have H3 : Hid (SlIn b t (wr.setCell ⟨g, off + j, none⟩ (.int .i64 kv)) (.slice (some ⟨g, off, none⟩) len cap) len ((mks s T (j + 1)).map (Value.int .i64)) ∧ Turn (Hits (.slice (some ⟨g, off, none⟩) len cap) len) w (wr.setCell ⟨g, off + j, none⟩ (.int .i64 kv))) := by
        refine ⟨hput, H2.out.2.trans ((turn_set _ _ _ _).wide ?_)⟩
        rintro k o ⟨rfl, rfl⟩
        exact ⟨off, len, cap, rfl, by omega, by omega⟩
      generalize ((mks s T j).map (Value.int .i64))[j]?.getD undef = u0 at y0
      clear hput hm hkv hcl h1 h2 h3
      go_wp2
      go_roundw
      case rel => exact ⟨j + 1, kv + 1, by omega, by go_num, by go_num, by rw [Hkv.out]; push_cast; omega, H3⟩
      case measure => simp [intOf]; omega
    · obtain rfl : j = len := by omega
      go_wp2
      go_ret
      refine ⟨by rw [← Hkv.out]; rfl, ?_, H2.out.2⟩
      have h := H2.out.1
      unfold IntIn
      rw [mks_length s T _ (by rw [Hlen.out]; omega), Hlen.out]
      exact h

set_option maxHeartbeats 1600000 in
theorem heldIntsF (s : Int) (s0 : 0 ≤ s) (s1 : s ≤ 1099511627776) (a : Option Addr) (cap : Nat) (T : List Int) (hT : T.length ≤ 1048576) (w : World) (H : Hid (IntsAt w a (mks s T T.length))) :
    Calls Try.prog 74 #[.slice a T.length cap, .int .i64 s] w fun e w' => e = .returned (.int .i64 (s + (T.length : Int))) ∧ w' = w := by
  have Hc : Hid (∀ j, j < T.length → ∃ b off, a = some ⟨b, off, none⟩ ∧ w.cell? ⟨b, off + j, none⟩ = some (.int .i64 (s + (j : Int)))) := by
    show ∀ j, j < T.length → ∃ b off, a = some ⟨b, off, none⟩ ∧ w.cell? ⟨b, off + j, none⟩ = some (.int .i64 (s + (j : Int)))
    intro j hj
    obtain ⟨b, off, e, _, hc⟩ := H.out j (by rw [mks_length s T _ (Nat.le_refl _)]; exact hj)
    rw [mks_end s T j hj] at hc
    exact ⟨b, off, e, hc⟩
  generalize T.length = len at hT Hc ⊢
  clear H
  go_enter Try.func74, Try.ntmps74
  go_wp2
  go_loop [1, 5] (fun kk i => ∃ (j : Nat) (kv : Int), j ≤ len ∧ i = .int .i64 j ∧ kk = .int .i64 kv ∧ Hid (kv = s + (j : Int)) ∧ 0 ≤ kv ∧ kv ≤ 1099514773504) (fun _ i => len - (intOf i).toNat)
  case atStart => exact ⟨0, s, Nat.zero_le _, rfl, rfl, by show s = s + ((0 : Nat) : Int); simp, s0, by omega⟩
  case round =>
    obtain ⟨j, kv, hj, rfl, rfl, hkv, k0, k1⟩ := hrel
    by_cases hlt : j < len
    · obtain ⟨b, off, ha, hc⟩ := Hc.out j hlt
      subst ha
      rw [← hkv.out] at hc
      have k2 : kv + 1 ≤ 1099514773504 := by have := hkv.out; omega
      go_wp2
      go_round
      case rel => exact ⟨j + 1, kv + 1, by omega, by go_num, by go_num, by show kv + 1 = s + ((j + 1 : Nat) : Int); have := hkv.out; push_cast; omega, by omega, k2⟩
      case measure => simp [intOf]; omega
    · obtain rfl : j = len := by omega
      go_wp2
      go_ret
      exact ⟨by rw [← hkv.out]; rfl, rfl⟩
end Go.Proofs.Ytllmkolchgmjoaa
