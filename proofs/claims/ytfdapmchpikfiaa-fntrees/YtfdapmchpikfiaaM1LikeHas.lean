import Derived.Test.YtfdapmchpikfiaaRows
import Derived.WalkKit
import Derived.WalkSpells
import Derived.WalkLawsBesides
import Derived.RowKit3
import Derived.Test.YtfdapmchpikfiaaFrPlain
import Derived.RegionTactic
/-
  Numbers within bounds, the model's way. By the verifier.
-/
namespace Go.Proofs.Ytfdapmchpikfiaa
open Go.RowKit

theorem ret_bool {a b : Bool} (h : a = b) : Ending.returned (.bool a) = .returned (.bool b) := by rw [h]
theorem ret_num {a b : Int} (h : a = b) : Ending.returned (.int .i64 a) = .returned (.int .i64 b) := by rw [h]
theorem specIn (n lo hi : Int) (w : World) :
    Calls Try.prog 50 #[.int .i64 n, .int .i64 lo, .int .i64 hi] w fun e w' => e = .returned (.bool (inB lo hi n)) ∧ w' = w := by
  by_cases h0 : lo ≤ n
  · by_cases h1 : n ≤ hi
    · have h : inB lo hi n = true := by rw [inB_true]; omega
      rw [h]
      go_enter Try.func50, Try.ntmps50
      go_wp2
      go_ret
      exact ⟨rfl, rfl⟩
    · have h : inB lo hi n = false := by rw [inB_false]; omega
      rw [h]
      go_enter Try.func50, Try.ntmps50
      go_wp2
      go_ret
      exact ⟨rfl, rfl⟩
  · have h : inB lo hi n = false := by rw [inB_false]; omega
    rw [h]
    go_enter Try.func50, Try.ntmps50
    go_wp2
    go_ret
    exact ⟨rfl, rfl⟩
end Go.Proofs.Ytfdapmchpikfiaa

/-
  The model's lesser one of two numbers. By the verifier.
-/
namespace Go.Proofs.Ytfdapmchpikfiaa
open Go.RowKit

theorem specMin (a b : Int) (w : World) :
    Calls Try.prog 63 #[.int .i64 a, .int .i64 b] w fun e w' => e = .returned (.int .i64 (min a b)) ∧ w' = w := by
  by_cases h : a < b
  · go_enter Try.func63, Try.ntmps63
    go_wp2
    go_ret
    exact ⟨ret_num (by omega), rfl⟩
  · go_enter Try.func63, Try.ntmps63
    go_wp2
    go_ret
    exact ⟨ret_num (by omega), rfl⟩
end Go.Proofs.Ytfdapmchpikfiaa

/-
  The walk of the laws' comparison of lists of numbers that are alike. By the verifier.
-/
namespace Go.Proofs.Ytfdapmchpikfiaa
open Go.RowKit

set_option maxHeartbeats 1600000 in
theorem likeInts (a1 a2 : Option Addr) (cap1 cap2 : Nat) (zs : List Int) (w : World) (hT : zs.length ≤ 1048576) (h1 : Hid (IntsAt w a1 zs)) (h2 : Hid (IntsAt w a2 zs)) :
    Calls Try.prog 15 #[.slice a1 zs.length cap1, .slice a2 zs.length cap2] w fun e w' => e = .returned (.bool true) ∧ Below w.heap.size w w' := by
  obtain ⟨len, hlen⟩ : ∃ n, zs.length = n := ⟨_, rfl⟩
  rw [hlen] at hT ⊢
  have Hlen : Hid (zs.length = len) := hlen
  clear hlen
  go_enter Try.func15, Try.ntmps15
  go_wp2
  go_loopw [5] (fun i wr => ∃ k : Nat, k ≤ len ∧ i = .int .i64 k ∧ Hid (Below w.heap.size w wr)) (fun i _ => len - (intOf i).toNat)
  case atStart => exact ⟨0, Nat.zero_le _, rfl, Below.refl _ _⟩
  case round =>
    obtain ⟨k, hk, rfl, hbl⟩ := hrel
    by_cases hlt : k < len
    · obtain ⟨b, off, ha, hb, c1⟩ := h1.out k (by rw [Hlen.out]; exact hlt)
      obtain ⟨b2, off2, ha2, hb2, c2⟩ := h2.out k (by rw [Hlen.out]; exact hlt)
      subst ha ha2
      generalize zs[k]?.getD 0 = z at c1 c2
      have d1 : wr.cell? ⟨b, off + k, none⟩ = some (.int .i64 z) := (hbl.out.cell (p := ⟨b, off + k, none⟩) hb).trans c1
      have d2 : wr.cell? ⟨b2, off2 + k, none⟩ = some (.int .i64 z) := (hbl.out.cell (p := ⟨b2, off2 + k, none⟩) hb2).trans c2
      clear c1 c2
      go_wp2
      go_region
      all_goals
        have hb' : Hid (Below w.heap.size w wr.drew) := hbl.out.drew
        go_wp2
        go_roundw
        case rel => exact ⟨k + 1, by omega, by go_num, hb'⟩
        case measure => simp [intOf]; omega
    · go_wp2
      go_ret
      exact ⟨rfl, hbl.out⟩
end Go.Proofs.Ytfdapmchpikfiaa

/-
  Whether a list of numbers has one. By the verifier.
-/
namespace Go.Proofs.Ytfdapmchpikfiaa
open Go.RowKit

set_option maxHeartbeats 1600000 in
theorem hasInts (a : Option Addr) (cap : Nat) (zs : List Int) (x : Int) (w : World) (hT : zs.length ≤ 1048576) (h : Hid (IntsAt w a zs)) :
    Calls Try.prog 19 #[.slice a zs.length cap, .int .i64 x] w fun e w' => e = .returned (.bool (decide (x ∈ zs))) ∧ w' = w := by
  have Hm : Hid ((∃ k, k < zs.length ∧ zs[k]?.getD 0 = x) ↔ x ∈ zs) := by
    show _ ↔ _
    rw [List.mem_iff_getElem]
    constructor
    · rintro ⟨k, hk, e⟩
      refine ⟨k, hk, ?_⟩
      rw [List.getElem?_eq_getElem hk] at e
      exact e
    · rintro ⟨k, hk, e⟩
      exact ⟨k, hk, by rw [List.getElem?_eq_getElem hk]; exact e⟩
  obtain ⟨r, hr⟩ : ∃ r, decide (x ∈ zs) = r := ⟨_, rfl⟩
  have Hr : Hid (decide (x ∈ zs) = r) := hr
  rw [hr]
  obtain ⟨len, hlen⟩ : ∃ n, zs.length = n := ⟨_, rfl⟩
  rw [hlen] at hT Hm ⊢
  have Hlen : Hid (zs.length = len) := hlen
  clear hlen hr
  go_enter Try.func19, Try.ntmps19
  go_wp2
  go_loop [5] (fun i => ∃ k : Nat, k ≤ len ∧ i = .int .i64 k ∧ Hid (∀ j, j < k → zs[j]?.getD 0 ≠ x)) (fun i => len - (intOf i).toNat)
  case atStart => exact ⟨0, Nat.zero_le _, rfl, fun j hj => by omega⟩
  case round =>
    obtain ⟨k, hk, rfl, hno⟩ := hrel
    by_cases hlt : k < len
    · obtain ⟨b, off, ha, hb, c1⟩ := h.out k (by rw [Hlen.out]; exact hlt)
      subst ha
      have hlt' : (k : Int) < (len : Int) := by omega
      by_cases hz : zs[k]?.getD 0 = x
      · have hres : r = true := by rw [← Hr.out]; exact decide_eq_true (Hm.out.1 ⟨k, hlt, hz⟩)
        subst hres
        rw [hz] at c1
        clear hz
        go_wp2
        go_ret
        exact ⟨rfl, rfl⟩
      · have hn2 : Hid (∀ j, j < k + 1 → zs[j]?.getD 0 ≠ x) := fun j hj => by
          by_cases e : j = k
          · subst e; exact hz
          · exact hno.out j (by omega)
        generalize zs[k]?.getD 0 = z at c1 hz
        have hz2 : (z == x) = false := by rw [beq_eq_false_iff_ne]; exact hz
        go_wp2
        go_round
        case rel => exact ⟨k + 1, by omega, by go_num, hn2⟩
        case measure => simp [intOf]; omega
    · obtain rfl : k = len := by omega
      have hres : r = false := by
        rw [← Hr.out]
        refine decide_eq_false fun hx => ?_
        obtain ⟨j, hj, e⟩ := Hm.out.2 hx
        exact hno.out j hj e
      subst hres
      go_wp2
      go_ret
      exact ⟨rfl, rfl⟩
end Go.Proofs.Ytfdapmchpikfiaa
