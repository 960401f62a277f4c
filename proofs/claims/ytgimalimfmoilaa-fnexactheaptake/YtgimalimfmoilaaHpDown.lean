/-
  container/heap's steps down over a heap of dues in a variable, the last place left out. By the verifier, by program.
-/
import Derived.Test.YtgimalimfmoilaaHpUp
namespace Go.Proofs.Ytgimalimfmoilaa
open Go.RowKit Go.Shelf

theorem app_len {m : List Du} {x : Du} {n : Nat} (h : m.length = n) : (m ++ [x]).length = n + 1 := by rw [List.length_append, h]; rfl
theorem swp_app {m : List Du} {x : Du} {i j : Nat} (hi : i < m.length) (hj : j < m.length) : swp (m ++ [x]) i j = swp m i j ++ [x] := by
  unfold swp
  rw [duAt_old hi, duAt_old hj, List.set_append_left _ _ hi, List.set_append_left _ _ (by rw [List.length_set]; exact hj)]
theorem down_step {m : List Du} {k n : Nat} (hn : m.length = n) (h1 : 2 * k + 1 < n) (hl : (duAt m (kid m k n)).lt (duAt m k)) : down n m k = down n (swp m k (kid m k n)) (kid m k n) := by
  subst hn
  obtain ⟨f, hf⟩ : ∃ f, m.length = f + 1 := ⟨m.length - 1, by omega⟩
  have e : down (f + 1) m k = down f (swp m k (kid m k m.length)) (kid m k m.length) := by
    rw [down, if_pos ⟨h1, hl⟩]
  have hk := kid_in h1
  rw [← hf] at e
  rw [e]
  exact down_fuel _ _ _ _ (by rw [swp_len]; omega) (by rw [swp_len]; omega)
theorem down_stop {m : List Du} {k n : Nat} (hn : m.length = n) (h : ¬ (2 * k + 1 < n ∧ (duAt m (kid m k n)).lt (duAt m k))) : down n m k = m := by
  subst hn
  cases hf : m.length with
  | zero => rfl
  | succ f => rw [down, if_neg h]

set_option maxHeartbeats 6400000 in
set_option maxRecDepth 100000 in
theorem implDown (base B g cap : Nat) (m : List Du) (x : Du) (n : Nat) (w : World) (hn : m.length = n) (hT : n ≤ 1048576) (h : HpV base B g cap (m ++ [x]) w) :
    Calls Try.prog 85 #[.iface 91 (.pointer (some ⟨B, 0, none⟩)), .int .i64 0, .int .i64 (n : Int)] w fun e w' => (∃ b, e = .returned (.bool b)) ∧ HpV base B g cap (down n m 0 ++ [x]) w' ∧ Kp base g w w' := by
  have Hs : Hid (base ≤ w.heap.size) := Nat.le_trans h.lt.1 (Nat.le_of_lt h.lt.2)
  have L : ∀ (m' : List Du) (x : Du) (i k : Nat) (w : World), m'.length = n → i < n → k < n → DusAt w (some ⟨g, 0, none⟩) (m' ++ [x]) → Calls Try.prog 66 #[.slice (some ⟨g, 0, none⟩) (m' ++ [x]).length cap, .int .i64 (i : Int), .int .i64 (k : Int)] w fun e w' => e = .returned (.bool (decide ((duAt m' i).lt (duAt m' k)))) ∧ Below w.heap.size w w' := fun m' x i k w hm hi hk hh => by
    have := implLess (some ⟨g, 0, none⟩) cap (m' ++ [x]) i k w (by rw [app_len hm]; omega) (by rw [app_len hm]; omega) hh
    rw [duAt_old (by omega), duAt_old (by omega)] at this
    exact this
  have Sw : ∀ (m' : List Du) (x : Du) (i k : Nat) (w : World), m'.length = n → i < n → k < n → DuRow base w (.slice (some ⟨g, 0, none⟩) (m' ++ [x]).length cap) (m' ++ [x]) → Calls Try.prog 126 #[.slice (some ⟨g, 0, none⟩) (m' ++ [x]).length cap, .int .i64 (i : Int), .int .i64 (k : Int)] w fun e w' => e = .returned (.tuple #[]) ∧ DuRow base w' (.slice (some ⟨g, 0, none⟩) (swp m' i k ++ [x]).length cap) (swp m' i k ++ [x]) ∧ Below g w w' ∧ ∀ q, q ≠ g → w'.heap[q]? = w.heap[q]? := fun m' x i k w hm hi hk hh => by
    have := implSwap g cap (m' ++ [x]) i k base w (by rw [app_len hm]; omega) (by rw [app_len hm]; omega) hh
    rw [swp_app (by omega) (by omega)] at this
    exact this
  have H0 : Hid (HpV base B g cap (m ++ [x]) w) := h
  have L' : Hid _ := L
  have Sw' : Hid _ := Sw
  have Hn : Hid (m.length = n) := hn
  have Hz : Hid (n = 0 → down n m 0 = m) := fun e => by subst e; rfl
  clear L Sw h hn
  go_enter Try.func85, Try.ntmps85
  go_wp2
  go_loopw [7] (fun s wr => ∃ (k : Nat) (m' : List Du), s = .int .i64 (k : Int) ∧ k ≤ n ∧ Hid (m'.length = n ∧ down n m' k = down n m 0 ∧ HpV base B g cap (m' ++ [x]) wr ∧ Kp base g w wr)) (fun s _ => n - (intOf s).toNat)
  case atStart => exact ⟨0, m, rfl, Nat.zero_le _, Hn.out, rfl, H0.out, Kp.refl _ _ _⟩
  case round =>
    obtain ⟨k, m', rfl, hkn, HK⟩ := hrel
    have Hl : Hid (m'.length = n) := HK.out.1
    have E0 : Hid (down n m' k = down n m 0) := HK.out.2.1
    have X : Hid (HpV base B g cap (m' ++ [x]) wr ∧ Kp base g w wr) := HK.out.2.2
    clear HK H0
    obtain ⟨a1, ha1⟩ : ∃ a : Nat, a = 2 * k + 1 := ⟨_, rfl⟩
    have hA : 2 * (k : Int) + 1 = (a1 : Int) := by omega
    have b1 : (a1 : Int) ≤ 2097153 := by omega
    by_cases h1 : 2 * k + 1 < n
    · have hk : k < n := by omega
      have hlt1 : (a1 : Int) < (n : Int) := by omega
      have hge1 : ¬ (n : Int) ≤ (a1 : Int) := by omega
      have hd1 : decide ((n : Int) ≤ (a1 : Int)) = false := decide_eq_false hge1
      have hn1 : ¬ (a1 : Int) < 0 := by omega
      obtain ⟨a2, ha2⟩ : ∃ a : Nat, a = a1 + 1 := ⟨_, rfl⟩
      have hA2 : (a1 : Int) + 1 = (a2 : Int) := by omega
      have b2 : (a2 : Int) ≤ 2097154 := by omega
      have Ha1 : Hid (a1 = 2 * k + 1) := ha1
      have Ha2 : Hid (a2 = a1 + 1) := ha2
      by_cases h2 : 2 * k + 2 < n
      · have hlt2 : (a2 : Int) < (n : Int) := by omega
        have hd2 : decide ((a2 : Int) < (n : Int)) = true := decide_eq_true hlt2
        have C1 := L'.out m' x a2 a1 wr Hl.out (by omega) (by omega) X.out.1.row.at
        have hm1 := m_Less X.out.1.cell
        have Q1 : Hid (decide ((duAt m' a2).lt (duAt m' a1)) = false → kid m' k n = a1) := fun z => by
          unfold kid
          rw [if_neg (fun hh => of_decide_eq_false z (by rw [Ha2.out, Ha1.out]; exact hh.2))]
          exact Ha1.out.symm
        have Q2 : Hid (decide ((duAt m' a2).lt (duAt m' a1)) = true → kid m' k n = a2) := fun z => by
          unfold kid
          rw [if_pos ⟨h2, by have := of_decide_eq_true z; rw [Ha2.out, Ha1.out] at this; exact this⟩, Ha2.out, Ha1.out]
        rw [app_len Hl.out] at C1 hm1
        generalize decide ((duAt m' a2).lt (duAt m' a1)) = z1 at C1 Q1 Q2
        have o1 : a1 < n := by omega
        have o2 : a2 < n := by omega
        have o3 : k < a1 := by omega
        have o4 : k < a2 := by omega
        clear ha1 ha2
        go_wp2_with fail
        refine C1.mono ?_
        rintro e w4 ⟨rfl, p1⟩
        have X4 : Hid (HpV base B g cap (m' ++ [x]) w4 ∧ Kp base g w w4) := ⟨X.out.1.below p1, X.out.2.below Hs.out p1⟩
        clear p1 C1 hm1 X
        cases z1
        · have Kq : Hid (kid m' k n = a1) := Q1.out (by first | exact trivial | exact rfl)
          clear Q1 Q2
          have C2 := L'.out m' x a1 k w4 Hl.out (by omega) hk X4.out.1.row.at
          have hm2 := m_Less X4.out.1.cell
          have D1 : Hid (decide ((duAt m' a1).lt (duAt m' k)) = false → down n m 0 = m') := fun z => by
            rw [← E0.out]
            refine down_stop Hl.out fun hh => ?_
            rw [Kq.out] at hh
            exact of_decide_eq_false z hh.2
          have D2 : Hid (decide ((duAt m' a1).lt (duAt m' k)) = true → down n (swp m' k a1) a1 = down n m 0) := fun z => by
            rw [← E0.out]
            have := down_step Hl.out h1 (by rw [Kq.out]; exact of_decide_eq_true z)
            rw [Kq.out] at this
            exact this.symm
          rw [app_len Hl.out] at C2 hm2
          generalize decide ((duAt m' a1).lt (duAt m' k)) = z2 at C2 D1 D2
          go_wp2_with fail
          refine C2.mono ?_
          rintro e w5 ⟨rfl, p1⟩
          have X5 : Hid (HpV base B g cap (m' ++ [x]) w5 ∧ Kp base g w w5) := ⟨X4.out.1.below p1, X4.out.2.below Hs.out p1⟩
          clear p1 C2 hm2
          cases z2
          · have E : Hid (down n m 0 = m') := D1.out (by first | exact trivial | exact rfl)
            go_wp2
            go_ret
            exact ⟨⟨_, rfl⟩, by rw [E.out]; exact X5.out.1, X5.out.2⟩
          · have E : Hid (down n (swp m' k a1) a1 = down n m 0) := D2.out (by first | exact trivial | exact rfl)
            have C3 := Sw'.out m' x k a1 w5 Hl.out hk (by omega) X5.out.1.row
            have hm3 := m_Swap X5.out.1.cell
            rw [app_len Hl.out] at C3 hm3
            clear D1 D2
            go_wp2_with fail
            refine C3.mono ?_
            rintro e w6 ⟨rfl, q1, q2, q3⟩
            have X6 : Hid ((swp m' k a1).length = n ∧ down n (swp m' k a1) a1 = down n m 0 ∧ HpV base B g cap (swp m' k a1 ++ [x]) w6 ∧ Kp base g w w6) :=
              ⟨by rw [swp_len]; exact Hl.out, E.out, X5.out.1.to q1 (by rw [List.length_append, List.length_append, swp_len]) q3, X5.out.2.other X5.out.1.lt.1 q2 q3⟩
            clear q1 q2 q3 C3 hm3
            go_wp2
            go_roundw
            case rel => exact ⟨a1, swp m' k a1, rfl, by omega, X6.out⟩
            case measure => simp [intOf]; omega
        · have Kq : Hid (kid m' k n = a2) := Q2.out (by first | exact trivial | exact rfl)
          clear Q1 Q2
          have C2 := L'.out m' x a2 k w4 Hl.out (by omega) hk X4.out.1.row.at
          have hm2 := m_Less X4.out.1.cell
          have D1 : Hid (decide ((duAt m' a2).lt (duAt m' k)) = false → down n m 0 = m') := fun z => by
            rw [← E0.out]
            refine down_stop Hl.out fun hh => ?_
            rw [Kq.out] at hh
            exact of_decide_eq_false z hh.2
          have D2 : Hid (decide ((duAt m' a2).lt (duAt m' k)) = true → down n (swp m' k a2) a2 = down n m 0) := fun z => by
            rw [← E0.out]
            have := down_step Hl.out h1 (by rw [Kq.out]; exact of_decide_eq_true z)
            rw [Kq.out] at this
            exact this.symm
          rw [app_len Hl.out] at C2 hm2
          generalize decide ((duAt m' a2).lt (duAt m' k)) = z2 at C2 D1 D2
          go_wp2_with fail
          refine C2.mono ?_
          rintro e w5 ⟨rfl, p1⟩
          have X5 : Hid (HpV base B g cap (m' ++ [x]) w5 ∧ Kp base g w w5) := ⟨X4.out.1.below p1, X4.out.2.below Hs.out p1⟩
          clear p1 C2 hm2
          cases z2
          · have E : Hid (down n m 0 = m') := D1.out (by first | exact trivial | exact rfl)
            go_wp2
            go_ret
            exact ⟨⟨_, rfl⟩, by rw [E.out]; exact X5.out.1, X5.out.2⟩
          · have E : Hid (down n (swp m' k a2) a2 = down n m 0) := D2.out (by first | exact trivial | exact rfl)
            have C3 := Sw'.out m' x k a2 w5 Hl.out hk (by omega) X5.out.1.row
            have hm3 := m_Swap X5.out.1.cell
            rw [app_len Hl.out] at C3 hm3
            clear D1 D2
            go_wp2_with fail
            refine C3.mono ?_
            rintro e w6 ⟨rfl, q1, q2, q3⟩
            have X6 : Hid ((swp m' k a2).length = n ∧ down n (swp m' k a2) a2 = down n m 0 ∧ HpV base B g cap (swp m' k a2 ++ [x]) w6 ∧ Kp base g w w6) :=
              ⟨by rw [swp_len]; exact Hl.out, E.out, X5.out.1.to q1 (by rw [List.length_append, List.length_append, swp_len]) q3, X5.out.2.other X5.out.1.lt.1 q2 q3⟩
            clear q1 q2 q3 C3 hm3
            go_wp2
            go_roundw
            case rel => exact ⟨a2, swp m' k a2, rfl, by omega, X6.out⟩
            case measure => simp [intOf]; omega
      · have hge2 : ¬ (a2 : Int) < (n : Int) := by omega
        have hd2 : decide ((a2 : Int) < (n : Int)) = false := decide_eq_false hge2
        have Kq : Hid (kid m' k n = a1) := by
          show kid m' k n = a1
          unfold kid
          rw [if_neg (fun hh => h2 hh.1)]
          exact Ha1.out.symm
        have o1 : a1 < n := by omega
        have o3 : k < a1 := by omega
        clear ha1 ha2
        have C2 := L'.out m' x a1 k wr Hl.out (by omega) hk X.out.1.row.at
        have hm2 := m_Less X.out.1.cell
        have D1 : Hid (decide ((duAt m' a1).lt (duAt m' k)) = false → down n m 0 = m') := fun z => by
          rw [← E0.out]
          refine down_stop Hl.out fun hh => ?_
          rw [Kq.out] at hh
          exact of_decide_eq_false z hh.2
        have D2 : Hid (decide ((duAt m' a1).lt (duAt m' k)) = true → down n (swp m' k a1) a1 = down n m 0) := fun z => by
          rw [← E0.out]
          have := down_step Hl.out h1 (by rw [Kq.out]; exact of_decide_eq_true z)
          rw [Kq.out] at this
          exact this.symm
        rw [app_len Hl.out] at C2 hm2
        generalize decide ((duAt m' a1).lt (duAt m' k)) = z2 at C2 D1 D2
        go_wp2_with fail
        refine C2.mono ?_
        rintro e w5 ⟨rfl, p1⟩
        have X5 : Hid (HpV base B g cap (m' ++ [x]) w5 ∧ Kp base g w w5) := ⟨X.out.1.below p1, X.out.2.below Hs.out p1⟩
        clear p1 C2 hm2
        cases z2
        · have E : Hid (down n m 0 = m') := D1.out (by first | exact trivial | exact rfl)
          go_wp2
          go_ret
          exact ⟨⟨_, rfl⟩, by rw [E.out]; exact X5.out.1, X5.out.2⟩
        · have E : Hid (down n (swp m' k a1) a1 = down n m 0) := D2.out (by first | exact trivial | exact rfl)
          have C3 := Sw'.out m' x k a1 w5 Hl.out hk (by omega) X5.out.1.row
          have hm3 := m_Swap X5.out.1.cell
          rw [app_len Hl.out] at C3 hm3
          clear D1 D2
          go_wp2_with fail
          refine C3.mono ?_
          rintro e w6 ⟨rfl, q1, q2, q3⟩
          have X6 : Hid ((swp m' k a1).length = n ∧ down n (swp m' k a1) a1 = down n m 0 ∧ HpV base B g cap (swp m' k a1 ++ [x]) w6 ∧ Kp base g w w6) :=
            ⟨by rw [swp_len]; exact Hl.out, E.out, X5.out.1.to q1 (by rw [List.length_append, List.length_append, swp_len]) q3, X5.out.2.other X5.out.1.lt.1 q2 q3⟩
          clear q1 q2 q3 C3 hm3
          go_wp2
          go_roundw
          case rel => exact ⟨a1, swp m' k a1, rfl, by omega, X6.out⟩
          case measure => simp [intOf]; omega
    · have hge1 : (n : Int) ≤ (a1 : Int) := by omega
      have hd1 : decide ((n : Int) ≤ (a1 : Int)) = true := decide_eq_true hge1
      have E : Hid (down n m 0 = m') := by
        show down n m 0 = m'
        rw [← E0.out]
        exact down_stop Hl.out fun hh => h1 hh.1
      clear ha1
      go_wp2
      go_ret
      exact ⟨⟨_, rfl⟩, by rw [E.out]; exact X.out.1, X.out.2⟩
end Go.Proofs.Ytgimalimfmoilaa
