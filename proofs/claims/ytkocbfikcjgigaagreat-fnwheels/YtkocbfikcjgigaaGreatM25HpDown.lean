import Derived.Test.YtkocbfikcjgigaaGreatHpSwap
/-
  container/heap's steps up and down over a heap of dues in a variable. By the verifier.
-/
namespace Go.Proofs.YtkocbfikcjgigaaGreat
open Go.RowKit Go.Shelf

/-- A heap of the call's own in a variable. -/
structure HpV (base B g cap : Nat) (l : List Du) (w : World) : Prop where
  box : Boxed w B #[.slice (some ⟨g, 0, none⟩) l.length cap] 67
  row : DuRow base w (.slice (some ⟨g, 0, none⟩) l.length cap) l
  lo : base ≤ B
/-- All but one block stays. -/
def Kp (base g : Nat) (w w' : World) : Prop := Below base w w' ∧ ∀ q, q ≠ g → q < w.heap.size → w'.heap[q]? = w.heap[q]?
section
variable {base B g cap : Nat} {l : List Du} {w w1 w2 : World}
theorem HpV.apart (h : HpV base B g cap l w) : B ≠ g := by
  intro e
  subst e
  rcases h.row.2 with ⟨e, _⟩ | ⟨g', cap', cur, e, _, q, _⟩
  · cases e
  · cases e
    have := h.box
    unfold Boxed at this
    rw [this] at q
    simp only [Option.some.injEq, Obj.cells.injEq] at q
    exact absurd q.2.1 (by decide)
theorem HpV.cell (h : HpV base B g cap l w) : w.cell? ⟨B, 0, none⟩ = some (.slice (some ⟨g, 0, none⟩) l.length cap) := h.box.cell 0 rfl
theorem HpV.below (h : HpV base B g cap l w) (b : Below w.heap.size w w1) : HpV base B g cap l w1 :=
  ⟨h.box.below h.box.under b, h.row.below (fun k hk => (h.row.lt k hk).2) b, h.lo⟩
theorem HpV.lt (h : HpV base B g cap l w) : base ≤ g ∧ g < w.heap.size := World.ownsRow.lt h.row g rfl
theorem HpV.to {l' : List Du} (h : HpV base B g cap l w) (hr : DuRow base w1 (.slice (some ⟨g, 0, none⟩) l'.length cap) l') (hl : l'.length = l.length) (ho : ∀ k, k ≠ g → w1.heap[k]? = w.heap[k]?) : HpV base B g cap l' w1 :=
  ⟨by unfold Boxed; rw [ho B h.apart, hl]; exact h.box, hr, h.lo⟩
theorem Kp.refl (base g : Nat) (w : World) : Kp base g w w := ⟨Below.refl _ _, fun _ _ _ => rfl⟩
theorem Kp.below (h : Kp base g w w1) (hb : base ≤ w.heap.size) (b : Below w1.heap.size w1 w2) : Kp base g w w2 :=
  ⟨h.1.trans (b.mono (Nat.le_trans hb h.1.size)), fun q hq hl => (b.block q (Nat.lt_of_lt_of_le hl h.1.size)).trans (h.2 q hq hl)⟩
theorem Kp.other (h : Kp base g w w1) (hg : base ≤ g) (b : Below g w1 w2) (ho : ∀ k, k ≠ g → w2.heap[k]? = w1.heap[k]?) : Kp base g w w2 :=
  ⟨h.1.trans (b.mono hg), fun q hq hl => (ho q hq).trans (h.2 q hq hl)⟩
end
theorem swp_comm (l : List Du) {i j : Nat} (h : i ≠ j) : swp l i j = swp l j i := by
  unfold swp
  rw [List.set_comm _ _ h]
theorem up_step {l : List Du} {k : Nat} (h0 : 0 < k) (hl : (duAt l k).lt (duAt l ((k - 1) / 2))) : up k l k = up ((k - 1) / 2) (swp l ((k - 1) / 2) k) ((k - 1) / 2) := by
  obtain ⟨m, rfl⟩ : ∃ m, k = m + 1 := ⟨k - 1, by omega⟩
  rw [up, if_pos ⟨h0, hl⟩, swp_comm l (by omega : (m + 1 - 1) / 2 ≠ m + 1)]
  exact up_fuel _ _ _ _ (by omega) (Nat.le_refl _)
theorem up_stop {l : List Du} {k : Nat} (h : ¬ (0 < k ∧ (duAt l k).lt (duAt l ((k - 1) / 2)))) : up k l k = l := by
  cases k with
  | zero => rfl
  | succ m => rw [up, if_neg h]

set_option maxHeartbeats 3200000 in
set_option maxRecDepth 100000 in
theorem implUp (base B g cap : Nat) (l : List Du) (j : Nat) (w : World) (hT : l.length ≤ 1048576) (hj : j < l.length) (h : HpV base B g cap l w) :
    Calls Tryz.prog 78 #[.iface 94 (.pointer (some ⟨B, 0, none⟩)), .int .i64 (j : Int)] w fun e w' => e = .returned (.tuple #[]) ∧ HpV base B g cap (up j l j) w' ∧ Kp base g w w' := by
  have Hs : Hid (base ≤ w.heap.size) := Nat.le_trans h.lt.1 (Nat.le_of_lt h.lt.2)
  have L := fun (l' : List Du) (i k : Nat) (w : World) (hi : i < l'.length) (hk : k < l'.length) (hh : DusAt w (some ⟨g, 0, none⟩) l') => implLess (some ⟨g, 0, none⟩) cap l' i k w hi hk hh
  have Sw := fun (l' : List Du) (i k : Nat) (w : World) (hi : i < l'.length) (hk : k < l'.length) (hh : DuRow base w (.slice (some ⟨g, 0, none⟩) l'.length cap) l') => implSwap g cap l' i k base w hi hk hh
  obtain ⟨n, hn⟩ : ∃ n, l.length = n := ⟨_, rfl⟩
  have H0 : Hid (HpV base B g cap l w) := h
  have L' : Hid _ := L
  have Sw' : Hid _ := Sw
  have Hn : Hid (l.length = n) := hn
  rw [hn] at hT hj
  clear L Sw h hn
  go_enter Tryz.func78, Tryz.ntmps78
  go_wp2
  go_loopw [1] (fun s wr => ∃ (k : Nat) (l' : List Du), s = .int .i64 (k : Int) ∧ k < n ∧ Hid (l'.length = n ∧ up k l' k = up j l j ∧ HpV base B g cap l' wr ∧ Kp base g w wr)) (fun s _ => (intOf s).toNat)
  case atStart => exact ⟨j, l, rfl, hj, Hn.out, rfl, H0.out, Kp.refl _ _ _⟩
  case round =>
    obtain ⟨k, l', rfl, hk, HK⟩ := hrel
    by_cases hk0 : k = 0
    · subst hk0
      have E : Hid (up 0 l' 0 = up j l j) := HK.out.2.1
      have t0 : Int.tdiv (-1) 2 = 0 := rfl
      go_wp2
      go_end0
      exact ⟨rfl, by rw [← E.out]; exact HK.out.2.2.1, HK.out.2.2.2⟩
    · obtain ⟨p, hp⟩ : ∃ p, p = (k - 1) / 2 := ⟨_, rfl⟩
      have hpk : p < k := by omega
      have hw1 : ((k : Int) - 1).tdiv 2 = (p : Int) := by
        rw [Int.tdiv_eq_ediv_of_nonneg (by omega)]
        omega
      have hne : ¬ (p : Int) = (k : Int) := by omega
      have hne' : ((p : Int) == (k : Int)) = false := beq_eq_false_iff_ne.2 hne
      have C := L'.out l' k p wr (by rw [HK.out.1]; exact hk) (by rw [HK.out.1]; omega) HK.out.2.2.1.row.at
      have hm0 := m_Less HK.out.2.2.1.cell
      have U1 : Hid (decide ((duAt l' k).lt (duAt l' p)) = false → up j l j = l') := fun q => by
        rw [← HK.out.2.1]
        refine up_stop fun hh => ?_
        rw [hp] at q
        exact of_decide_eq_false q hh.2
      have U2 : Hid (decide ((duAt l' k).lt (duAt l' p)) = true → up p (swp l' p k) p = up j l j) := fun q => by
        rw [← HK.out.2.1, hp]
        rw [hp] at q
        exact (up_step (by omega) (of_decide_eq_true q)).symm
      rw [HK.out.1] at C hm0
      generalize decide ((duAt l' k).lt (duAt l' p)) = z at C U1 U2
      have hk1 : (1 : Int) ≤ (k : Int) := by omega
      have Hp : Hid (p = (k - 1) / 2) := hp
      clear hp
      go_wp2_with fail
      refine C.mono ?_
      rintro e w1 ⟨rfl, q1⟩
      have X1 : Hid (HpV base B g cap l' w1 ∧ Kp base g w w1) := ⟨HK.out.2.2.1.below q1, HK.out.2.2.2.below Hs.out q1⟩
      have Hl : Hid (l'.length = n) := HK.out.1
      clear q1 C hm0 HK
      cases z
      · have E : Hid (up j l j = l') := U1.out (by first | exact trivial | exact rfl)
        go_wp2
        go_end0
        exact ⟨rfl, by rw [E.out]; exact X1.out.1, X1.out.2⟩
      · have E : Hid (up p (swp l' p k) p = up j l j) := U2.out (by first | exact trivial | exact rfl)
        have C2 := Sw'.out l' p k w1 (by rw [Hl.out]; omega) (by rw [Hl.out]; exact hk) X1.out.1.row
        have hm1 := m_Swap X1.out.1.cell
        rw [Hl.out] at C2 hm1
        clear U1 U2
        go_wp2_with fail
        refine C2.mono ?_
        rintro e w2 ⟨rfl, q1, q2, q3⟩
        have X2 : Hid ((swp l' p k).length = n ∧ up p (swp l' p k) p = up j l j ∧ HpV base B g cap (swp l' p k) w2 ∧ Kp base g w w2) :=
          ⟨by rw [swp_len]; exact Hl.out, E.out, X1.out.1.to q1 (swp_len _ _ _) q3, X1.out.2.other X1.out.1.lt.1 q2 q3⟩
        clear q1 q2 q3 C2 hm1
        go_wp2
        go_roundw
        case rel => exact ⟨p, swp l' p k, rfl, by omega, X2.out⟩
        case measure => simp [intOf]; omega
end Go.Proofs.YtkocbfikcjgigaaGreat

/-
  container/heap's steps down over a heap of dues in a variable, the last place left out. By the verifier, by program.
-/
namespace Go.Proofs.YtkocbfikcjgigaaGreat
open Go.RowKit Go.Shelf

theorem app_len {m : List Du} {x : Du} {n : Nat} (h : m.length = n) : (m ++ [x]).length = n + 1 := by rw [List.length_append, h]; rfl
theorem swp_app {m : List Du} {x : Du} {i j : Nat} (hi : i < m.length) (hj : j < m.length) : swp (m ++ [x]) i j = swp m i j ++ [x] := by
  unfold swp
  rw [duAt_old hi, duAt_old hj, List.set_append_left _ _ hi, List.set_append_left _ _ (by rw [List.length_set]; exact hj)]
theorem down_step {m : List Du} {k n : Nat} (hn : m.length = n) (h1 : 2 * k + 1 < n) (hl : (duAt m (kid m k n)).lt (duAt m k)) : down n m k = down n (swp m k (kid m k n)) (kid m k n) := by
  subst hn
  obtain ⟨f, hf⟩ : ∃ f, m.length = f + 1 := ⟨m.length - 1, by omega⟩
  have e : down (f + 1) m k = down f (swp m k (kid m k m.length)) (kid m k m.length) := by
    rw [down, if_pos ⟨h1, hl⟩]
  have hk := kid_in h1
  rw [← hf] at e
  rw [e]
  exact down_fuel _ _ _ _ (by rw [swp_len]; omega) (by rw [swp_len]; omega)
theorem down_stop {m : List Du} {k n : Nat} (hn : m.length = n) (h : ¬ (2 * k + 1 < n ∧ (duAt m (kid m k n)).lt (duAt m k))) : down n m k = m := by
  subst hn
  cases hf : m.length with
  | zero => rfl
  | succ f => rw [down, if_neg h]

set_option maxHeartbeats 6400000 in
set_option maxRecDepth 100000 in
theorem implDown (base B g cap : Nat) (m : List Du) (x : Du) (n : Nat) (w : World) (hn : m.length = n) (hT : n ≤ 1048576) (h : HpV base B g cap (m ++ [x]) w) :
    Calls Tryz.prog 80 #[.iface 94 (.pointer (some ⟨B, 0, none⟩)), .int .i64 0, .int .i64 (n : Int)] w fun e w' => (∃ b, e = .returned (.bool b)) ∧ HpV base B g cap (down n m 0 ++ [x]) w' ∧ Kp base g w w' := by
  have Hs : Hid (base ≤ w.heap.size) := Nat.le_trans h.lt.1 (Nat.le_of_lt h.lt.2)
  have L : ∀ (m' : List Du) (x : Du) (i k : Nat) (w : World), m'.length = n → i < n → k < n → DusAt w (some ⟨g, 0, none⟩) (m' ++ [x]) → Calls Tryz.prog 71 #[.slice (some ⟨g, 0, none⟩) (m' ++ [x]).length cap, .int .i64 (i : Int), .int .i64 (k : Int)] w fun e w' => e = .returned (.bool (decide ((duAt m' i).lt (duAt m' k)))) ∧ Below w.heap.size w w' := fun m' x i k w hm hi hk hh => by
    have := implLess (some ⟨g, 0, none⟩) cap (m' ++ [x]) i k w (by rw [app_len hm]; omega) (by rw [app_len hm]; omega) hh
    rw [duAt_old (by omega), duAt_old (by omega)] at this
    exact this
  have Sw : ∀ (m' : List Du) (x : Du) (i k : Nat) (w : World), m'.length = n → i < n → k < n → DuRow base w (.slice (some ⟨g, 0, none⟩) (m' ++ [x]).length cap) (m' ++ [x]) → Calls Tryz.prog 118 #[.slice (some ⟨g, 0, none⟩) (m' ++ [x]).length cap, .int .i64 (i : Int), .int .i64 (k : Int)] w fun e w' => e = .returned (.tuple #[]) ∧ DuRow base w' (.slice (some ⟨g, 0, none⟩) (swp m' i k ++ [x]).length cap) (swp m' i k ++ [x]) ∧ Below g w w' ∧ ∀ q, q ≠ g → w'.heap[q]? = w.heap[q]? := fun m' x i k w hm hi hk hh => by
    have := implSwap g cap (m' ++ [x]) i k base w (by rw [app_len hm]; omega) (by rw [app_len hm]; omega) hh
    rw [swp_app (by omega) (by omega)] at this
    exact this
  have H0 : Hid (HpV base B g cap (m ++ [x]) w) := h
  have L' : Hid _ := L
  have Sw' : Hid _ := Sw
  have Hn : Hid (m.length = n) := hn
  have Hz : Hid (n = 0 → down n m 0 = m) := fun e => by subst e; rfl
  clear L Sw h hn
  go_enter Tryz.func80, Tryz.ntmps80
  go_wp2
  go_loopw [7] (fun s wr => ∃ (k : Nat) (m' : List Du), s = .int .i64 (k : Int) ∧ k ≤ n ∧ Hid (m'.length = n ∧ down n m' k = down n m 0 ∧ HpV base B g cap (m' ++ [x]) wr ∧ Kp base g w wr)) (fun s _ => n - (intOf s).toNat)
  case atStart => exact ⟨0, m, rfl, Nat.zero_le _, Hn.out, rfl, H0.out, Kp.refl _ _ _⟩
  case round =>
    obtain ⟨k, m', rfl, hkn, HK⟩ := hrel
    have Hl : Hid (m'.length = n) := HK.out.1
    have E0 : Hid (down n m' k = down n m 0) := HK.out.2.1
    have X : Hid (HpV base B g cap (m' ++ [x]) wr ∧ Kp base g w wr) := HK.out.2.2
    clear HK H0
    obtain ⟨a1, ha1⟩ : ∃ a : Nat, a = 2 * k + 1 := ⟨_, rfl⟩
    have hA : 2 * (k : Int) + 1 = (a1 : Int) := by omega
    have b1 : (a1 : Int) ≤ 2097153 := by omega
    by_cases h1 : 2 * k + 1 < n
    · have hk : k < n := by omega
      have hlt1 : (a1 : Int) < (n : Int) := by omega
      have hge1 : ¬ (n : Int) ≤ (a1 : Int) := by omega
      have hd1 : decide ((n : Int) ≤ (a1 : Int)) = false := decide_eq_false hge1
      have hn1 : ¬ (a1 : Int) < 0 := by omega
      obtain ⟨a2, ha2⟩ : ∃ a : Nat, a = a1 + 1 := ⟨_, rfl⟩
      have hA2 : (a1 : Int) + 1 = (a2 : Int) := by omega
      have b2 : (a2 : Int) ≤ 2097154 := by omega
      have Ha1 : Hid (a1 = 2 * k + 1) := ha1
      have Ha2 : Hid (a2 = a1 + 1) := ha2
      by_cases h2 : 2 * k + 2 < n
      · have hlt2 : (a2 : Int) < (n : Int) := by omega
        have hd2 : decide ((a2 : Int) < (n : Int)) = true := decide_eq_true hlt2
        have C1 := L'.out m' x a2 a1 wr Hl.out (by omega) (by omega) X.out.1.row.at
        have hm1 := m_Less X.out.1.cell
        have Q1 : Hid (decide ((duAt m' a2).lt (duAt m' a1)) = false → kid m' k n = a1) := fun z => by
          unfold kid
          rw [if_neg (fun hh => of_decide_eq_false z (by rw [Ha2.out, Ha1.out]; exact hh.2))]
          exact Ha1.out.symm
        have Q2 : Hid (decide ((duAt m' a2).lt (duAt m' a1)) = true → kid m' k n = a2) := fun z => by
          unfold kid
          rw [if_pos ⟨h2, by have := of_decide_eq_true z; rw [Ha2.out, Ha1.out] at this; exact this⟩, Ha2.out, Ha1.out]
        rw [app_len Hl.out] at C1 hm1
        generalize decide ((duAt m' a2).lt (duAt m' a1)) = z1 at C1 Q1 Q2
        have o1 : a1 < n := by omega
        have o2 : a2 < n := by omega
        have o3 : k < a1 := by omega
        have o4 : k < a2 := by omega
        clear ha1 ha2
        go_wp2_with fail
        refine C1.mono ?_
        rintro e w4 ⟨rfl, p1⟩
        have X4 : Hid (HpV base B g cap (m' ++ [x]) w4 ∧ Kp base g w w4) := ⟨X.out.1.below p1, X.out.2.below Hs.out p1⟩
        clear p1 C1 hm1 X
        cases z1
        · have Kq : Hid (kid m' k n = a1) := Q1.out (by first | exact trivial | exact rfl)
          clear Q1 Q2
          have C2 := L'.out m' x a1 k w4 Hl.out (by omega) hk X4.out.1.row.at
          have hm2 := m_Less X4.out.1.cell
          have D1 : Hid (decide ((duAt m' a1).lt (duAt m' k)) = false → down n m 0 = m') := fun z => by
            rw [← E0.out]
            refine down_stop Hl.out fun hh => ?_
            rw [Kq.out] at hh
            exact of_decide_eq_false z hh.2
          have D2 : Hid (decide ((duAt m' a1).lt (duAt m' k)) = true → down n (swp m' k a1) a1 = down n m 0) := fun z => by
            rw [← E0.out]
            have := down_step Hl.out h1 (by rw [Kq.out]; exact of_decide_eq_true z)
            rw [Kq.out] at this
            exact this.symm
          rw [app_len Hl.out] at C2 hm2
          generalize decide ((duAt m' a1).lt (duAt m' k)) = z2 at C2 D1 D2
          go_wp2_with fail
          refine C2.mono ?_
          rintro e w5 ⟨rfl, p1⟩
          have X5 : Hid (HpV base B g cap (m' ++ [x]) w5 ∧ Kp base g w w5) := ⟨X4.out.1.below p1, X4.out.2.below Hs.out p1⟩
          clear p1 C2 hm2
          cases z2
          · have E : Hid (down n m 0 = m') := D1.out (by first | exact trivial | exact rfl)
            go_wp2
            go_ret
            exact ⟨⟨_, rfl⟩, by rw [E.out]; exact X5.out.1, X5.out.2⟩
          · have E : Hid (down n (swp m' k a1) a1 = down n m 0) := D2.out (by first | exact trivial | exact rfl)
            have C3 := Sw'.out m' x k a1 w5 Hl.out hk (by omega) X5.out.1.row
            have hm3 := m_Swap X5.out.1.cell
            rw [app_len Hl.out] at C3 hm3
            clear D1 D2
            go_wp2_with fail
            refine C3.mono ?_
            rintro e w6 ⟨rfl, q1, q2, q3⟩
            have X6 : Hid ((swp m' k a1).length = n ∧ down n (swp m' k a1) a1 = down n m 0 ∧ HpV base B g cap (swp m' k a1 ++ [x]) w6 ∧ Kp base g w w6) :=
              ⟨by rw [swp_len]; exact Hl.out, E.out, X5.out.1.to q1 (by rw [List.length_append, List.length_append, swp_len]) q3, X5.out.2.other X5.out.1.lt.1 q2 q3⟩
            clear q1 q2 q3 C3 hm3
            go_wp2
            go_roundw
            case rel => exact ⟨a1, swp m' k a1, rfl, by omega, X6.out⟩
            case measure => simp [intOf]; omega
        · have Kq : Hid (kid m' k n = a2) := Q2.out (by first | exact trivial | exact rfl)
          clear Q1 Q2
          have C2 := L'.out m' x a2 k w4 Hl.out (by omega) hk X4.out.1.row.at
          have hm2 := m_Less X4.out.1.cell
          have D1 : Hid (decide ((duAt m' a2).lt (duAt m' k)) = false → down n m 0 = m') := fun z => by
            rw [← E0.out]
            refine down_stop Hl.out fun hh => ?_
            rw [Kq.out] at hh
            exact of_decide_eq_false z hh.2
          have D2 : Hid (decide ((duAt m' a2).lt (duAt m' k)) = true → down n (swp m' k a2) a2 = down n m 0) := fun z => by
            rw [← E0.out]
            have := down_step Hl.out h1 (by rw [Kq.out]; exact of_decide_eq_true z)
            rw [Kq.out] at this
            exact this.symm
          rw [app_len Hl.out] at C2 hm2
          generalize decide ((duAt m' a2).lt (duAt m' k)) = z2 at C2 D1 D2
          go_wp2_with fail
          refine C2.mono ?_
          rintro e w5 ⟨rfl, p1⟩
          have X5 : Hid (HpV base B g cap (m' ++ [x]) w5 ∧ Kp base g w w5) := ⟨X4.out.1.below p1, X4.out.2.below Hs.out p1⟩
          clear p1 C2 hm2
          cases z2
          · have E : Hid (down n m 0 = m') := D1.out (by first | exact trivial | exact rfl)
            go_wp2
            go_ret
            exact ⟨⟨_, rfl⟩, by rw [E.out]; exact X5.out.1, X5.out.2⟩
          · have E : Hid (down n (swp m' k a2) a2 = down n m 0) := D2.out (by first | exact trivial | exact rfl)
            have C3 := Sw'.out m' x k a2 w5 Hl.out hk (by omega) X5.out.1.row
            have hm3 := m_Swap X5.out.1.cell
            rw [app_len Hl.out] at C3 hm3
            clear D1 D2
            go_wp2_with fail
            refine C3.mono ?_
            rintro e w6 ⟨rfl, q1, q2, q3⟩
            have X6 : Hid ((swp m' k a2).length = n ∧ down n (swp m' k a2) a2 = down n m 0 ∧ HpV base B g cap (swp m' k a2 ++ [x]) w6 ∧ Kp base g w w6) :=
              ⟨by rw [swp_len]; exact Hl.out, E.out, X5.out.1.to q1 (by rw [List.length_append, List.length_append, swp_len]) q3, X5.out.2.other X5.out.1.lt.1 q2 q3⟩
            clear q1 q2 q3 C3 hm3
            go_wp2
            go_roundw
            case rel => exact ⟨a2, swp m' k a2, rfl, by omega, X6.out⟩
            case measure => simp [intOf]; omega
      · have hge2 : ¬ (a2 : Int) < (n : Int) := by omega
        have hd2 : decide ((a2 : Int) < (n : Int)) = false := decide_eq_false hge2
        have Kq : Hid (kid m' k n = a1) := by
          show kid m' k n = a1
          unfold kid
          rw [if_neg (fun hh => h2 hh.1)]
          exact Ha1.out.symm
        have o1 : a1 < n := by omega
        have o3 : k < a1 := by omega
        clear ha1 ha2
        have C2 := L'.out m' x a1 k wr Hl.out (by omega) hk X.out.1.row.at
        have hm2 := m_Less X.out.1.cell
        have D1 : Hid (decide ((duAt m' a1).lt (duAt m' k)) = false → down n m 0 = m') := fun z => by
          rw [← E0.out]
          refine down_stop Hl.out fun hh => ?_
          rw [Kq.out] at hh
          exact of_decide_eq_false z hh.2
        have D2 : Hid (decide ((duAt m' a1).lt (duAt m' k)) = true → down n (swp m' k a1) a1 = down n m 0) := fun z => by
          rw [← E0.out]
          have := down_step Hl.out h1 (by rw [Kq.out]; exact of_decide_eq_true z)
          rw [Kq.out] at this
          exact this.symm
        rw [app_len Hl.out] at C2 hm2
        generalize decide ((duAt m' a1).lt (duAt m' k)) = z2 at C2 D1 D2
        go_wp2_with fail
        refine C2.mono ?_
        rintro e w5 ⟨rfl, p1⟩
        have X5 : Hid (HpV base B g cap (m' ++ [x]) w5 ∧ Kp base g w w5) := ⟨X.out.1.below p1, X.out.2.below Hs.out p1⟩
        clear p1 C2 hm2
        cases z2
        · have E : Hid (down n m 0 = m') := D1.out (by first | exact trivial | exact rfl)
          go_wp2
          go_ret
          exact ⟨⟨_, rfl⟩, by rw [E.out]; exact X5.out.1, X5.out.2⟩
        · have E : Hid (down n (swp m' k a1) a1 = down n m 0) := D2.out (by first | exact trivial | exact rfl)
          have C3 := Sw'.out m' x k a1 w5 Hl.out hk (by omega) X5.out.1.row
          have hm3 := m_Swap X5.out.1.cell
          rw [app_len Hl.out] at C3 hm3
          clear D1 D2
          go_wp2_with fail
          refine C3.mono ?_
          rintro e w6 ⟨rfl, q1, q2, q3⟩
          have X6 : Hid ((swp m' k a1).length = n ∧ down n (swp m' k a1) a1 = down n m 0 ∧ HpV base B g cap (swp m' k a1 ++ [x]) w6 ∧ Kp base g w w6) :=
            ⟨by rw [swp_len]; exact Hl.out, E.out, X5.out.1.to q1 (by rw [List.length_append, List.length_append, swp_len]) q3, X5.out.2.other X5.out.1.lt.1 q2 q3⟩
          clear q1 q2 q3 C3 hm3
          go_wp2
          go_roundw
          case rel => exact ⟨a1, swp m' k a1, rfl, by omega, X6.out⟩
          case measure => simp [intOf]; omega
    · have hge1 : (n : Int) ≤ (a1 : Int) := by omega
      have hd1 : decide ((n : Int) ≤ (a1 : Int)) = true := decide_eq_true hge1
      have E : Hid (down n m 0 = m') := by
        show down n m 0 = m'
        rw [← E0.out]
        exact down_stop Hl.out fun hh => h1 hh.1
      clear ha1
      go_wp2
      go_ret
      exact ⟨⟨_, rfl⟩, by rw [E.out]; exact X.out.1, X.out.2⟩
end Go.Proofs.YtkocbfikcjgigaaGreat
