/-
  The walks of Root, the program's and the model's: the greatest number whose square is at most a. By the verifier.
-/
import Derived.Test.YtdpibcofhokiiaaFix
import Derived.Handy
namespace Go.Proofs.Ytdpibcofhokiiaa
open Go.RowKit

/-- r is the root of a. -/
def IsRoot (a r : Int) : Prop := 0 ≤ r ∧ r ≤ 1048576 ∧ r * r ≤ a ∧ a < (r + 1) * (r + 1)
theorem IsRoot.one {a r s : Int} (h : IsRoot a r) (g : IsRoot a s) : r = s :=
  Plain.root_one h.1 g.1 h.2.2.1 h.2.2.2 g.2.2.1 g.2.2.2
/-- Between l and h lies the root. -/
def Between (a l h : Int) : Prop := l * l ≤ a ∧ a < (h + 1) * (h + 1)
theorem between_start {a : Int} (h0 : 0 ≤ a) (h1 : a ≤ 1099511627776) : Between a 0 1048576 := ⟨by omega, by omega⟩
theorem between_up {a l h m : Int} (b : Between a l h) (hm : m * m ≤ a) : Between a m h := ⟨hm, b.2⟩
theorem between_down {a l h m : Int} (b : Between a l h) (hm : a < m * m) : Between a l (m - 1) := ⟨b.1, by rw [show m - 1 + 1 = m by omega]; exact hm⟩
theorem between_end {a l h : Int} (b : Between a l h) (l0 : 0 ≤ l) (hl : l ≤ h) (hh : h ≤ 1048576) (hge : h ≤ l) : IsRoot a l := by
  have : h = l := by omega
  subst this
  exact ⟨l0, hh, b.1, b.2⟩

set_option maxHeartbeats 400000 in
theorem specRoot_ok (a : Int) (w : World) (ha : okB a = true) :
    Calls Try.prog 12 #[.int .i64 a] w fun e w' => (∃ r, e = .returned (.int .i64 r) ∧ IsRoot a r) ∧ w' = w := by
  obtain ⟨h0, h1⟩ := okB_true.1 ha
  go_enter Try.func12, Try.ntmps12
  go_wp2_with (first | (go_at_call 14; refine (specFixOk _ _).mono ?_; rintro e w' ⟨rfl, rfl⟩))
  go_loop [3, 4] (fun s t => ∃ l h : Int, 0 ≤ l ∧ l ≤ h ∧ h ≤ 1048576 ∧ s = .int .i64 l ∧ t = .int .i64 h ∧ Between a l h) (fun s t => (intOf t - intOf s).toNat)
  case atStart => exact ⟨0, 1048576, by omega, by omega, by omega, rfl, rfl, between_start h0 h1⟩
  case round =>
    obtain ⟨l, h, hl0, hlh, hh, rfl, rfl, hb⟩ := hrel
    have Hb : Hid (Between a l h) := hb
    clear hb
    by_cases hlt : l < h
    · have m0 : 0 ≤ (l + h + 1) / 2 := by omega
      have m1 : l < (l + h + 1) / 2 := by omega
      have m2 : (l + h + 1) / 2 ≤ h := by omega
      have sq := Plain.sq_fits m0 (by omega)
      obtain ⟨sq0, sq1⟩ := sq
      go_wp2
      · go_round
        case rel => exact ⟨_, _, m0, m2, hh, rfl, rfl, between_up Hb.out (by assumption)⟩
        case measure => simp only [intOf]; omega
      · go_round
        case rel => exact ⟨_, _, hl0, by omega, by omega, rfl, rfl, between_down Hb.out (by omega)⟩
        case measure => simp only [intOf]; omega
    · go_wp2
      go_ret
      exact ⟨⟨_, rfl, between_end Hb.out hl0 hlh hh (by omega)⟩, rfl⟩
theorem specRoot_no (a : Int) (w : World) (ha : okB a = false) :
    Calls Try.prog 12 #[.int .i64 a] w fun e w' => e = .returned (.int .i64 (-1)) ∧ w' = w := by
  go_enter Try.func12, Try.ntmps12
  go_wp2_with (first | (go_at_call 14; refine (specFixOk _ _).mono ?_; rintro e w' ⟨rfl, rfl⟩))
  go_ret
  exact ⟨rfl, rfl⟩
theorem implRoot_no (a : Int) (w : World) (ha : okB a = false) :
    Calls Try.prog 11 #[.int .i64 a] w fun e w' => e = .returned (.int .i64 (-1)) ∧ w' = w := by
  go_enter Try.func11, Try.ntmps11
  go_wp2_with (first | (go_at_call 15; refine (implFixOk _ _).mono ?_; rintro e w' ⟨rfl, rfl⟩))
  go_ret
  exact ⟨rfl, rfl⟩
set_option maxHeartbeats 400000 in
theorem implRoot_ok (a : Int) (w : World) (ha : okB a = true) :
    Calls Try.prog 11 #[.int .i64 a] w fun e w' => (∃ r, e = .returned (.int .i64 r) ∧ IsRoot a r) ∧ w' = w := by
  have hmf : ∀ (fn : Fn) (first cap : Array Value) (w : World), (Instr.makeFunc fn first cap).run Try.prog w = .ok (.func fn first cap) w := fun _ _ _ _ => rfl
  obtain ⟨h0, h1⟩ := okB_true.1 ha
  go_enter Try.func11, Try.ntmps11
  go_wp2_with (first | (go_at_call 15; refine (implFixOk _ _).mono ?_; rintro e w' ⟨rfl, rfl⟩) | go_in)
  go_loop [5, 6] (fun s t => ∃ l h : Int, 0 ≤ l ∧ l ≤ h ∧ h ≤ 1048576 ∧ s = .int .i64 l ∧ t = .int .i64 h ∧ Between a l h) (fun s t => (intOf t - intOf s).toNat)
  case atStart => exact ⟨0, 1048576, by omega, by omega, by omega, rfl, rfl, between_start h0 h1⟩
  case round =>
    obtain ⟨l, h, hl0, hlh, hh, rfl, rfl, hb⟩ := hrel
    have Hb : Hid (Between a l h) := hb
    clear hb
    by_cases hlt : l < h
    · have m0 : 0 ≤ (l + h + 1) / 2 := by omega
      have m1 : l < (l + h + 1) / 2 := by omega
      have m2 : (l + h + 1) / 2 ≤ h := by omega
      have sq := Plain.sq_fits m0 (by omega)
      obtain ⟨sq0, sq1⟩ := sq
      go_wp2
      · go_round
        case rel => exact ⟨_, _, m0, m2, hh, rfl, rfl, between_up Hb.out (by assumption)⟩
        case measure => simp only [intOf]; omega
      · go_round
        case rel => exact ⟨_, _, hl0, by omega, by omega, rfl, rfl, between_down Hb.out (by omega)⟩
        case measure => simp only [intOf]; omega
    · go_wp2
      go_ret
      exact ⟨⟨_, rfl, between_end Hb.out hl0 hlh hh (by omega)⟩, rfl⟩

set_option maxHeartbeats 400000 in
theorem fnExactRoot_walk (a0 : Int) (w : World) :
    Calls Try.prog 8 #[.int .i64 a0] w fun e w' => e = .returned (.bool true) ∧ Grown w w' := by
  cases ha : okB a0
  · go_enter Try.func8, Try.ntmps8
    go_wp2_with (first | (go_at_call 12; refine (specRoot_no _ _ ha).mono ?_; rintro e w' ⟨rfl, rfl⟩) | (go_at_call 11; refine (implRoot_no _ _ ha).mono ?_; rintro e w' ⟨rfl, rfl⟩))
    go_ret
    exact ⟨rfl, Grown.refl _⟩
  · go_enter Try.func8, Try.ntmps8
    go_wp2_with fail
    refine (specRoot_ok _ _ ha).mono ?_
    rintro e w' ⟨⟨r, rfl, hr⟩, rfl⟩
    go_wp2_with fail
    refine (implRoot_ok _ _ ha).mono ?_
    rintro e w' ⟨⟨s, rfl, hs⟩, rfl⟩
    obtain rfl := hr.one hs
    go_wp2
    go_ret
    exact ⟨rfl, Grown.refl _⟩
end Go.Proofs.Ytdpibcofhokiiaa
