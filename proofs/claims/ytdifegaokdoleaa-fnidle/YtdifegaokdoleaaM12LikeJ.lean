import Derived.Test.YtdifegaokdoleaaM2Box
import Derived.RegionTactic
import Derived.Test.YtdifegaokdoleaaM0DrawFrom
/-
  The laws' own comparison of lists of numbers, and whether one rises. By the verifier.
-/
namespace Go.Proofs.Ytdifegaokdoleaa
open Go.RowKit

set_option maxHeartbeats 1600000 in
theorem likeInts (a1 a2 : Option Addr) (cap1 cap2 : Nat) (zs : List Int) (w : World) (hT : zs.length ≤ 1048576) (h1 : Hid (IntsAt w a1 zs)) (h2 : Hid (IntsAt w a2 zs)) :
    Calls Try.prog 13 #[.slice a1 zs.length cap1, .slice a2 zs.length cap2] w fun e w' => e = .returned (.bool true) ∧ Below w.heap.size w w' := by
  obtain ⟨len, hlen⟩ : ∃ n, zs.length = n := ⟨_, rfl⟩
  rw [hlen] at hT ⊢
  have Hlen : Hid (zs.length = len) := hlen
  clear hlen
  go_enter Try.func13, Try.ntmps13
  go_wp2
  go_loopw [5] (fun i wr => ∃ k : Nat, k ≤ len ∧ i = .int .i64 k ∧ Hid (Below w.heap.size w wr)) (fun i _ => len - (intOf i).toNat)
  case atStart => exact ⟨0, Nat.zero_le _, rfl, Below.refl _ _⟩
  case round =>
    obtain ⟨k, hk, rfl, hbl⟩ := hrel
    by_cases hlt : k < len
    · obtain ⟨b, off, ha, hb, c1⟩ := h1.out k (by rw [Hlen.out]; exact hlt)
      obtain ⟨b2, off2, ha2, hb2, c2⟩ := h2.out k (by rw [Hlen.out]; exact hlt)
      subst ha ha2
      generalize zs[k]?.getD 0 = z at c1 c2
      have d1 : wr.cell? ⟨b, off + k, none⟩ = some (.int .i64 z) := (hbl.out.cell (p := ⟨b, off + k, none⟩) hb).trans c1
      have d2 : wr.cell? ⟨b2, off2 + k, none⟩ = some (.int .i64 z) := (hbl.out.cell (p := ⟨b2, off2 + k, none⟩) hb2).trans c2
      clear c1 c2
      go_wp2
      go_region
      all_goals
        have hb' : Hid (Below w.heap.size w wr.drew) := hbl.out.drew
        go_wp2
        go_roundw
        case rel => exact ⟨k + 1, by omega, by go_num, hb'⟩
        case measure => simp [intOf]; omega
    · go_wp2
      go_ret
      exact ⟨rfl, hbl.out⟩

set_option maxHeartbeats 1600000 in
theorem risesInts (a : Option Addr) (cap : Nat) (zs : List Int) (w : World) (hT : zs.length ≤ 1048576) (hp : Hid (zs.Pairwise (· < ·))) (h : Hid (IntsAt w a zs)) :
    Calls Try.prog 18 #[.slice a zs.length cap] w fun e w' => e = .returned (.bool true) ∧ Below w.heap.size w w' := by
  have HP : Hid (∀ k, k + 1 < zs.length → zs[k]?.getD 0 < zs[k + 1]?.getD 0) := fun k hk => by
    rw [List.getElem?_eq_getElem (by omega), List.getElem?_eq_getElem hk]
    exact (List.pairwise_iff_getElem.1 hp.out) k (k + 1) (by omega) hk (by omega)
  obtain ⟨len, hlen⟩ : ∃ n, zs.length = n := ⟨_, rfl⟩
  rw [hlen] at hT HP ⊢
  have Hlen : Hid (zs.length = len) := hlen
  clear hlen hp
  go_enter Try.func18, Try.ntmps18
  go_wp2
  go_loopw [3] (fun i wr => ∃ k : Nat, 1 ≤ k ∧ (k ≤ len ∨ k = 1) ∧ i = .int .i64 k ∧ Hid (Below w.heap.size w wr)) (fun i _ => len - (intOf i).toNat)
  case atStart => exact ⟨1, Nat.le_refl _, .inr rfl, rfl, Below.refl _ _⟩
  case round =>
    obtain ⟨k, hk1, hk, rfl, hbl⟩ := hrel
    by_cases hlt : k < len
    · obtain ⟨j, rfl⟩ : ∃ j, k = j + 1 := ⟨k - 1, by omega⟩
      obtain ⟨b, off, ha, hb, c1⟩ := h.out (j + 1) (by rw [Hlen.out]; exact hlt)
      obtain ⟨b2, off2, ha2, hb2, c2⟩ := h.out j (by rw [Hlen.out]; omega)
      subst ha
      cases ha2
      have hz := HP.out j hlt
      generalize zs[j + 1]?.getD 0 = z at c1 hz
      generalize zs[j]?.getD 0 = y at c2 hz
      have d1 : wr.cell? ⟨b, off + (j + 1), none⟩ = some (.int .i64 z) := (hbl.out.cell (p := ⟨b, off + (j + 1), none⟩) hb).trans c1
      have d2 : wr.cell? ⟨b, off + j, none⟩ = some (.int .i64 y) := (hbl.out.cell (p := ⟨b, off + j, none⟩) hb2).trans c2
      have hlt' : (j : Int) + 1 < (len : Int) := by omega
      have hj0 : (0 : Int) ≤ (j : Int) := by omega
      have hjl : (j : Int) < (len : Int) := by omega
      have hz2 : ¬ z ≤ y := by omega
      clear c1 c2
      go_wp2
      go_region
      all_goals
        have hb' : Hid (Below w.heap.size w wr.drew) := hbl.out.drew
        go_wp2
        go_roundw
        case rel => exact ⟨j + 1 + 1, by omega, by omega, by go_num, hb'⟩
        case measure => simp [intOf]; omega
    · go_wp2
      go_ret
      exact ⟨rfl, hbl.out⟩
end Go.Proofs.Ytdifegaokdoleaa

/-
  The law's own choice of addresses. By the verifier.
-/
namespace Go.Proofs.Ytdifegaokdoleaa
open Go.RowKit

set_option maxHeartbeats 800000 in
theorem lawPickAny {W : World} {a : Option Addr} {len cap : Nat} (hc : Hid (Code W a len)) (s n : Int) (n0 : 0 < n) (w : World) (bel : Hid (Below W.heap.size W w)) :
    Calls Try.prog 28 #[.slice a len cap, .int .i64 s, .int .i64 n] w fun e w' => (∃ x : Int, e = .returned (.int .i64 x)) ∧ w' = w := by
  have l4 := hc.out.1
  have nz : ¬ n = 0 := by omega
  go_enter Try.func28, Try.ntmps28
  go_wp2
  go_loop [7, 8] (fun h i => ∃ (q : Int) (k : Nat), k ≤ len ∧ i = .int .i64 k ∧ h = .int .i64 q) (fun _ i => len - (intOf i).toNat)
  case atStart => exact ⟨_, 0, Nat.zero_le _, rfl, rfl⟩
  case round =>
    obtain ⟨q, k, hk, rfl, rfl⟩ := hrel
    by_cases hlt : k < len
    · obtain ⟨b, off, z, rfl, hb, hz, z0, z1⟩ := hc.out.2 k hlt
      have hz' : w.cell? ⟨b, off + k, none⟩ = some (.int .u8 z) := (bel.out.cell (p := ⟨b, off + k, none⟩) hb).trans hz
      clear hz
      go_wp2
      go_round
      case rel => exact ⟨_, k + 1, by omega, by go_num, rfl⟩
      case measure => simp [intOf]; omega
    · go_wp2
      go_ret
      exact ⟨⟨_, rfl⟩, rfl⟩

set_option maxHeartbeats 800000 in
theorem lawAddr {W : World} {a : Option Addr} {len cap : Nat} (hc : Hid (Code W a len)) (s : Int) (w : World) (bel : Hid (Below W.heap.size W w)) :
    Calls Try.prog 27 #[.slice a len cap, .int .i64 s] w fun e w' => (∃ x : Int, e = .returned (.int .i64 x)) ∧ w' = w := by
  go_enter Try.func27, Try.ntmps27
  go_wp2_with fail
  refine (lawPickAny hc _ 64 (by omega) _ bel).mono ?_
  rintro e w1 ⟨⟨x, rfl⟩, hw⟩
  have hw := hw.symm
  subst hw
  go_wp2_with fail
  refine (lawPickAny hc _ 65536 (by omega) _ bel).mono ?_
  rintro e w2 ⟨⟨y, rfl⟩, hw⟩
  have hw := hw.symm
  subst hw
  go_wp2
  go_ret
  exact ⟨⟨_, rfl⟩, rfl⟩
end Go.Proofs.Ytdifegaokdoleaa

/-
  Whether a list of numbers has one; the laws' choice of a number below n, at whatever place. By the verifier.
-/
namespace Go.Proofs.Ytdifegaokdoleaa
open Go.RowKit

set_option maxHeartbeats 1600000 in
theorem hasInts (a : Option Addr) (cap : Nat) (zs : List Int) (x : Int) (w : World) (hT : zs.length ≤ 1048576) (h : Hid (IntsAt w a zs)) :
    Calls Try.prog 26 #[.slice a zs.length cap, .int .i64 x] w fun e w' => e = .returned (.bool (decide (x ∈ zs))) ∧ w' = w := by
  have Hm : Hid ((∃ k, k < zs.length ∧ zs[k]?.getD 0 = x) ↔ x ∈ zs) := by
    show _ ↔ _
    rw [List.mem_iff_getElem]
    constructor
    · rintro ⟨k, hk, e⟩
      refine ⟨k, hk, ?_⟩
      rw [List.getElem?_eq_getElem hk] at e
      exact e
    · rintro ⟨k, hk, e⟩
      exact ⟨k, hk, by rw [List.getElem?_eq_getElem hk]; exact e⟩
  obtain ⟨r, hr⟩ : ∃ r, decide (x ∈ zs) = r := ⟨_, rfl⟩
  have Hr : Hid (decide (x ∈ zs) = r) := hr
  rw [hr]
  obtain ⟨len, hlen⟩ : ∃ n, zs.length = n := ⟨_, rfl⟩
  rw [hlen] at hT Hm ⊢
  have Hlen : Hid (zs.length = len) := hlen
  clear hlen hr
  go_enter Try.func26, Try.ntmps26
  go_wp2
  go_loop [5] (fun i => ∃ k : Nat, k ≤ len ∧ i = .int .i64 k ∧ Hid (∀ j, j < k → zs[j]?.getD 0 ≠ x)) (fun i => len - (intOf i).toNat)
  case atStart => exact ⟨0, Nat.zero_le _, rfl, fun j hj => by omega⟩
  case round =>
    obtain ⟨k, hk, rfl, hno⟩ := hrel
    by_cases hlt : k < len
    · obtain ⟨b, off, ha, hb, c1⟩ := h.out k (by rw [Hlen.out]; exact hlt)
      subst ha
      have hlt' : (k : Int) < (len : Int) := by omega
      by_cases hz : zs[k]?.getD 0 = x
      · have hres : r = true := by rw [← Hr.out]; exact decide_eq_true (Hm.out.1 ⟨k, hlt, hz⟩)
        subst hres
        rw [hz] at c1
        clear hz
        go_wp2
        go_ret
        exact ⟨rfl, rfl⟩
      · have hn2 : Hid (∀ j, j < k + 1 → zs[j]?.getD 0 ≠ x) := fun j hj => by
          by_cases e : j = k
          · subst e; exact hz
          · exact hno.out j (by omega)
        generalize zs[k]?.getD 0 = z at c1 hz
        have hz2 : (z == x) = false := by rw [beq_eq_false_iff_ne]; exact hz
        go_wp2
        go_round
        case rel => exact ⟨k + 1, by omega, by go_num, hn2⟩
        case measure => simp [intOf]; omega
    · obtain rfl : k = len := by omega
      have hres : r = false := by
        rw [← Hr.out]
        refine decide_eq_false fun hx => ?_
        obtain ⟨j, hj, e⟩ := Hm.out.2 hx
        exact hno.out j hj e
      subst hres
      go_wp2
      go_ret
      exact ⟨rfl, rfl⟩

set_option maxHeartbeats 800000 in
theorem lawPickS {W : World} {a : Option Addr} {len cap : Nat} (hc : Hid (Code W a len)) (s n : Int) (s0 : 0 ≤ s) (s1 : s ≤ 1000) (n0 : 0 < n) (n1 : n ≤ 1000000) (w : World) (bel : Hid (Below W.heap.size W w)) :
    Calls Try.prog 28 #[.slice a len cap, .int .i64 s, .int .i64 n] w fun e w' => (∃ x : Int, e = .returned (.int .i64 x) ∧ 0 ≤ x ∧ x < n) ∧ w' = w := by
  have l4 := hc.out.1
  have nz : ¬ n = 0 := by omega
  have q0 : IntKind.i64.wrap (7919 * s) = 7919 * s := by rw [IntKind.wrap_i64]; omega
  have q00 : IntKind.i64.wrap ((len : Int) + 7919 * s) = (len : Int) + 7919 * s := by rw [IntKind.wrap_i64]; omega
  go_enter Try.func28, Try.ntmps28
  go_wp2
  go_loop [7, 8] (fun h i => ∃ (q : Int) (k : Nat), k ≤ len ∧ i = .int .i64 k ∧ h = .int .i64 q ∧ 0 ≤ q ∧ q ≤ 10000003) (fun _ i => len - (intOf i).toNat)
  case atStart => exact ⟨_, 0, Nat.zero_le _, rfl, rfl, by omega, by omega⟩
  case round =>
    obtain ⟨q, k, hk, rfl, rfl, q0, q1⟩ := hrel
    by_cases hlt : k < len
    · obtain ⟨b, off, z, rfl, hb, hz, z0, z1⟩ := hc.out.2 k hlt
      have hz' : w.cell? ⟨b, off + k, none⟩ = some (.int .u8 z) := (bel.out.cell (p := ⟨b, off + k, none⟩) hb).trans hz
      clear hz
      go_wp2
      go_round
      case rel => exact ⟨_, k + 1, by omega, by go_num, rfl, by omega, by omega⟩
      case measure => simp [intOf]; omega
    · go_wp2
      go_ret
      exact ⟨⟨_, rfl, Int.emod_nonneg _ nz, Int.emod_lt_of_pos _ n0⟩, rfl⟩
end Go.Proofs.Ytdifegaokdoleaa
