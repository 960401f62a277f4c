/-
  The walks of chapter 1's functions, the program's and the model's: what each call answers. By the verifier.
-/
import Derived.Test.YtmcklibhfkhdhaaRows
import Derived.WalkKit
import Derived.WalkSpells
import Derived.WalkLawsBesides
import Derived.RowKit3
import Derived.Test.YtmcklibhfkhdhaaBase
import Derived.Test.YtmcklibhfkhdhaaPlain
namespace Go.Proofs.Ytmcklibhfkhdhaa
open Go.RowKit

/-- From 0 to 2^40. -/
def okB (a : Int) : Bool := decide (0 ≤ a ∧ a ≤ 1099511627776)
theorem okB_true {a : Int} : okB a = true ↔ 0 ≤ a ∧ a ≤ 1099511627776 := by simp [okB]
theorem okB_false {a : Int} : okB a = false ↔ a < 0 ∨ 1099511627776 < a := by simp [okB]; omega

theorem specFixOk (a : Int) (w : World) :
    Calls Try.prog 15 #[.int .i64 a] w fun e w' => e = .returned (.bool (okB a)) ∧ w' = w := by
  by_cases h0 : 0 ≤ a
  · by_cases h1 : a ≤ 1099511627776
    · have h : okB a = true := by rw [okB_true]; omega
      rw [h]
      go_enter Try.func15, Try.ntmps15
      go_wp2
      go_ret
      exact ⟨rfl, rfl⟩
    · have h : okB a = false := by rw [okB_false]; omega
      rw [h]
      go_enter Try.func15, Try.ntmps15
      go_wp2
      go_ret
      exact ⟨rfl, rfl⟩
  · have h : okB a = false := by rw [okB_false]; omega
    rw [h]
    go_enter Try.func15, Try.ntmps15
    go_wp2
    go_ret
    exact ⟨rfl, rfl⟩

theorem implFixOk (a : Int) (w : World) :
    Calls Try.prog 14 #[.int .i64 a] w fun e w' => e = .returned (.bool (okB a)) ∧ w' = w := by
  by_cases h0 : 0 ≤ a
  · by_cases h1 : a ≤ 1099511627776
    · have h : okB a = true := by rw [okB_true]; omega
      rw [h]
      go_enter Try.func14, Try.ntmps14
      go_wp2
      go_ret
      exact ⟨rfl, rfl⟩
    · have h : okB a = false := by rw [okB_false]; omega
      rw [h]
      go_enter Try.func14, Try.ntmps14
      go_wp2
      go_ret
      exact ⟨rfl, rfl⟩
  · have h : okB a = false := by rw [okB_false]; omega
    rw [h]
    go_enter Try.func14, Try.ntmps14
    go_wp2
    go_ret
    exact ⟨rfl, rfl⟩

theorem all_take_succ (zs : List Int) (k : Nat) (hk : k < zs.length) :
    (zs.take (k + 1)).all okB = ((zs.take k).all okB && okB (zs[k]?.getD 0)) := by
  rw [List.take_succ_eq_append_getElem hk, List.all_append]; simp [List.getElem?_eq_getElem hk]
theorem all_hit (zs : List Int) (k : Nat) (hk : k < zs.length) (h : okB (zs[k]?.getD 0) = false) : zs.all okB = false := by
  rw [List.all_eq_false]
  exact ⟨zs[k], List.getElem_mem hk, by simp [List.getElem?_eq_getElem hk] at h; simp [h]⟩

theorem implAllFixes (b len : Nat) (zs : List Int) (w : World) (hz : zs.length = len) (hbig : len ≤ 1000)
    (hc : ∀ j, j < zs.length → w.cell? ⟨b, j, none⟩ = some (.int .i64 (zs.getD j 0))) :
    Calls Try.prog 21 #[.slice (some ⟨b, 0, none⟩) len len] w fun e w' => e = .returned (.bool (zs.all okB)) ∧ w' = w := by
  have Hc : Hid (∀ j, j < zs.length → w.cell? ⟨b, j, none⟩ = some (.int .i64 (zs.getD j 0))) := hc
  clear hc
  go_enter Try.func21, Try.ntmps21
  go_wp2
  go_loop [7] (fun i => ∃ k : Nat, k ≤ len ∧ i = .int .i64 k ∧ (zs.take k).all okB = true) (fun i => len - (intOf i).toNat)
  case atStart => exact ⟨0, Nat.zero_le _, rfl, rfl⟩
  case round =>
    obtain ⟨k, hk, rfl, hall⟩ := hrel
    have Hall : Hid ((zs.take k).all okB = true) := hall
    clear hall
    by_cases hlt : k < len
    · have hcell := Hc.out k (by omega)
      simp only [List.getD_eq_getElem?_getD] at hcell
      have hs := all_take_succ zs k (by omega)
      have hh := all_hit zs k (by omega)
      rw [Hall.out] at hs
      generalize zs[k]?.getD 0 = z at hcell hs hh
      have Hs : Hid ((zs.take (k + 1)).all okB = (true && okB z)) := hs
      have Hh : Hid (okB z = false → zs.all okB = false) := hh
      clear hs hh
      cases hok : okB z
      · go_wp2_with (go_at_call 14; refine (implFixOk _ _).mono ?_; rintro e w' ⟨rfl, rfl⟩)
        go_ret
        rw [Hh.out hok]
        exact ⟨rfl, rfl⟩
      · go_wp2_with (go_at_call 14; refine (implFixOk _ _).mono ?_; rintro e w' ⟨rfl, rfl⟩)
        go_round
        case rel => exact ⟨k + 1, by omega, by go_num, by rw [Hs.out, hok]; rfl⟩
        case measure => simp [intOf]; omega
    · go_wp2
      go_ret
      have : zs.take k = zs := List.take_of_length_le (by omega)
      rw [← this, Hall.out]
      exact ⟨rfl, rfl⟩

theorem two_all {a b : Int} {w : World} {t : TypeId} : ∀ j, j < [a, b].length →
    (w.alloc (.cells #[.int .i64 a, .int .i64 b] t)).cell? ⟨w.heap.size, j, none⟩ = some (.int .i64 ([a, b].getD j 0)) := by
  intro j hj
  match j, hj with
  | 0, _ => simp
  | 1, _ => simp
theorem three_all {a b c : Int} {w : World} {t : TypeId} : ∀ j, j < [a, b, c].length →
    (w.alloc (.cells #[.int .i64 a, .int .i64 b, .int .i64 c] t)).cell? ⟨w.heap.size, j, none⟩ = some (.int .i64 ([a, b, c].getD j 0)) := by
  intro j hj
  match j, hj with
  | 0, _ => simp
  | 1, _ => simp
  | 2, _ => simp

theorem ret_i64 {a b : Int} (h : a = b) : Ending.returned (.int .i64 a) = .returned (.int .i64 b) := by rw [h]

/-- What Plus answers. -/
def plusV (a b : Int) : Int := if 0 ≤ a ∧ a ≤ 1099511627776 ∧ 0 ≤ b ∧ b ≤ 1099511627776 then if a + b < 1099511627776 then a + b else 1099511627776 else -1
set_option maxHeartbeats 400000 in
theorem implPlus (a b : Int) (w : World) :
    Calls Try.prog 9 #[.int .i64 a, .int .i64 b] w fun e w' => e = .returned (.int .i64 (plusV a b)) ∧ New w w' := by
  have hmf : ∀ (fn : Fn) (first cap : Array Value) (w : World), (Instr.makeFunc fn first cap).run Try.prog w = .ok (.func fn first cap) w := fun _ _ _ _ => rfl
  by_cases h : 0 ≤ a ∧ a ≤ 1099511627776 ∧ 0 ≤ b ∧ b ≤ 1099511627776
  · have hv : plusV a b = if a + b < 1099511627776 then a + b else 1099511627776 := if_pos h
    have Hv : Hid (plusV a b = if a + b < 1099511627776 then a + b else 1099511627776) := hv
    have hall : [a, b].all okB = true := by simp [okB]; omega
    have Hall : Hid ([a, b].all okB = true) := hall
    clear hall hv
    obtain ⟨ha0, ha1, hb0, hb1⟩ := h
    go_enter Try.func9, Try.ntmps9
    go_wp2_with (first | (go_at_call 21; refine (implAllFixes w.heap.size 2 [a, b] _ rfl (by omega) two_all).mono ?_; rintro e w' ⟨rfl, rfl⟩; rw [Hall.out]) | go_in)
    all_goals (go_ret; exact ⟨ret_i64 (by rw [Hv.out]; split <;> omega), (New.refl _).alloc _ _⟩)
  · have hv : plusV a b = -1 := if_neg h
    have Hv : Hid (plusV a b = -1) := hv
    have hall : [a, b].all okB = false := by simp [okB]; omega
    have Hall : Hid ([a, b].all okB = false) := hall
    clear hall hv h
    go_enter Try.func9, Try.ntmps9
    go_wp2_with (first | (go_at_call 21; refine (implAllFixes w.heap.size 2 [a, b] _ rfl (by omega) two_all).mono ?_; rintro e w' ⟨rfl, rfl⟩; rw [Hall.out]) | go_in)
    go_ret
    exact ⟨ret_i64 Hv.out.symm, (New.refl _).alloc _ _⟩
set_option maxHeartbeats 400000 in
theorem specPlus (a b : Int) (w : World) :
    Calls Try.prog 12 #[.int .i64 a, .int .i64 b] w fun e w' => e = .returned (.int .i64 (plusV a b)) ∧ w' = w := by
  have Hv : Hid (plusV a b = if 0 ≤ a ∧ a ≤ 1099511627776 ∧ 0 ≤ b ∧ b ≤ 1099511627776 then if a + b < 1099511627776 then a + b else 1099511627776 else -1) := rfl
  cases ha : okB a
  · have hf := okB_false.1 ha
    go_enter Try.func12, Try.ntmps12
    go_wp2_with (first | (go_at_call 15; refine (specFixOk _ _).mono ?_; rintro e w' ⟨rfl, rfl⟩) | go_in)
    all_goals (go_ret; exact ⟨ret_i64 (by rw [Hv.out, if_neg (by omega)]), rfl⟩)
  · have ht := okB_true.1 ha
    obtain ⟨ha0, ha1⟩ := ht
    cases hb : okB b
    · have hf := okB_false.1 hb
      go_enter Try.func12, Try.ntmps12
      go_wp2_with (first | (go_at_call 15; refine (specFixOk _ _).mono ?_; rintro e w' ⟨rfl, rfl⟩) | go_in)
      all_goals (go_ret; exact ⟨ret_i64 (by rw [Hv.out, if_neg (by omega)]), rfl⟩)
    · have ht := okB_true.1 hb
      obtain ⟨hb0, hb1⟩ := ht
      go_enter Try.func12, Try.ntmps12
      go_wp2_with (first | (go_at_call 15; refine (specFixOk _ _).mono ?_; rintro e w' ⟨rfl, rfl⟩) | go_in)
      all_goals (go_ret; exact ⟨ret_i64 (by rw [Hv.out, if_pos ⟨ha0, ha1, hb0, hb1⟩]; split <;> omega), rfl⟩)

/-- What Minus answers. -/
def minusV (a b : Int) : Int := if 0 ≤ a ∧ a ≤ 1099511627776 ∧ 0 ≤ b ∧ b ≤ 1099511627776 then if 0 < a - b then a - b else 0 else -1
set_option maxHeartbeats 400000 in
theorem implMinus (a b : Int) (w : World) :
    Calls Try.prog 10 #[.int .i64 a, .int .i64 b] w fun e w' => e = .returned (.int .i64 (minusV a b)) ∧ New w w' := by
  have hmf : ∀ (fn : Fn) (first cap : Array Value) (w : World), (Instr.makeFunc fn first cap).run Try.prog w = .ok (.func fn first cap) w := fun _ _ _ _ => rfl
  by_cases h : 0 ≤ a ∧ a ≤ 1099511627776 ∧ 0 ≤ b ∧ b ≤ 1099511627776
  · have hv : minusV a b = if 0 < a - b then a - b else 0 := if_pos h
    have Hv : Hid (minusV a b = if 0 < a - b then a - b else 0) := hv
    have hall : [a, b].all okB = true := by simp [okB]; omega
    have Hall : Hid ([a, b].all okB = true) := hall
    clear hall hv
    obtain ⟨ha0, ha1, hb0, hb1⟩ := h
    go_enter Try.func10, Try.ntmps10
    go_wp2_with (first | (go_at_call 21; refine (implAllFixes w.heap.size 2 [a, b] _ rfl (by omega) two_all).mono ?_; rintro e w' ⟨rfl, rfl⟩; rw [Hall.out]) | go_in)
    all_goals (go_ret; exact ⟨ret_i64 (by rw [Hv.out]; split <;> omega), (New.refl _).alloc _ _⟩)
  · have hv : minusV a b = -1 := if_neg h
    have Hv : Hid (minusV a b = -1) := hv
    have hall : [a, b].all okB = false := by simp [okB]; omega
    have Hall : Hid ([a, b].all okB = false) := hall
    clear hall hv h
    go_enter Try.func10, Try.ntmps10
    go_wp2_with (first | (go_at_call 21; refine (implAllFixes w.heap.size 2 [a, b] _ rfl (by omega) two_all).mono ?_; rintro e w' ⟨rfl, rfl⟩; rw [Hall.out]) | go_in)
    go_ret
    exact ⟨ret_i64 Hv.out.symm, (New.refl _).alloc _ _⟩
set_option maxHeartbeats 400000 in
theorem specMinus (a b : Int) (w : World) :
    Calls Try.prog 13 #[.int .i64 a, .int .i64 b] w fun e w' => e = .returned (.int .i64 (minusV a b)) ∧ w' = w := by
  have Hv : Hid (minusV a b = if 0 ≤ a ∧ a ≤ 1099511627776 ∧ 0 ≤ b ∧ b ≤ 1099511627776 then if 0 < a - b then a - b else 0 else -1) := rfl
  cases ha : okB a
  · have hf := okB_false.1 ha
    go_enter Try.func13, Try.ntmps13
    go_wp2_with (first | (go_at_call 15; refine (specFixOk _ _).mono ?_; rintro e w' ⟨rfl, rfl⟩) | go_in)
    all_goals (go_ret; exact ⟨ret_i64 (by rw [Hv.out, if_neg (by omega)]), rfl⟩)
  · have ht := okB_true.1 ha
    obtain ⟨ha0, ha1⟩ := ht
    cases hb : okB b
    · have hf := okB_false.1 hb
      go_enter Try.func13, Try.ntmps13
      go_wp2_with (first | (go_at_call 15; refine (specFixOk _ _).mono ?_; rintro e w' ⟨rfl, rfl⟩) | go_in)
      all_goals (go_ret; exact ⟨ret_i64 (by rw [Hv.out, if_neg (by omega)]), rfl⟩)
    · have ht := okB_true.1 hb
      obtain ⟨hb0, hb1⟩ := ht
      go_enter Try.func13, Try.ntmps13
      go_wp2_with (first | (go_at_call 15; refine (specFixOk _ _).mono ?_; rintro e w' ⟨rfl, rfl⟩) | go_in)
      all_goals (go_ret; exact ⟨ret_i64 (by rw [Hv.out, if_pos ⟨ha0, ha1, hb0, hb1⟩]; split <;> omega), rfl⟩)

end Go.Proofs.Ytmcklibhfkhdhaa
