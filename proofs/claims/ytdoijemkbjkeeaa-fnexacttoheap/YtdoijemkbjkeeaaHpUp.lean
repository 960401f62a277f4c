/-
  container/heap's steps up and down over a heap of dues in a variable. By the verifier.
-/
import Derived.Test.YtdoijemkbjkeeaaM21HpSwap
namespace Go.Proofs.Ytdoijemkbjkeeaa
open Go.RowKit Go.Shelf

/-- A heap of the call's own in a variable. -/
structure HpV (base B g cap : Nat) (l : List Du) (w : World) : Prop where
  box : Boxed w B #[.slice (some ⟨g, 0, none⟩) l.length cap] 76
  row : DuRow base w (.slice (some ⟨g, 0, none⟩) l.length cap) l
  lo : base ≤ B
/-- All but one block stays. -/
def Kp (base g : Nat) (w w' : World) : Prop := Below base w w' ∧ ∀ q, q ≠ g → q < w.heap.size → w'.heap[q]? = w.heap[q]?
section
variable {base B g cap : Nat} {l : List Du} {w w1 w2 : World}
theorem HpV.apart (h : HpV base B g cap l w) : B ≠ g := by
  intro e
  subst e
  rcases h.row.2 with ⟨e, _⟩ | ⟨g', cap', cur, e, _, q, _⟩
  · cases e
  · cases e
    have := h.box
    unfold Boxed at this
    rw [this] at q
    simp only [Option.some.injEq, Obj.cells.injEq] at q
    exact absurd q.2.1 (by decide)
theorem HpV.cell (h : HpV base B g cap l w) : w.cell? ⟨B, 0, none⟩ = some (.slice (some ⟨g, 0, none⟩) l.length cap) := h.box.cell 0 rfl
theorem HpV.below (h : HpV base B g cap l w) (b : Below w.heap.size w w1) : HpV base B g cap l w1 :=
  ⟨h.box.below h.box.under b, h.row.below (fun k hk => (h.row.lt k hk).2) b, h.lo⟩
theorem HpV.lt (h : HpV base B g cap l w) : base ≤ g ∧ g < w.heap.size := World.ownsRow.lt h.row g rfl
theorem HpV.to {l' : List Du} (h : HpV base B g cap l w) (hr : DuRow base w1 (.slice (some ⟨g, 0, none⟩) l'.length cap) l') (hl : l'.length = l.length) (ho : ∀ k, k ≠ g → w1.heap[k]? = w.heap[k]?) : HpV base B g cap l' w1 :=
  ⟨by unfold Boxed; rw [ho B h.apart, hl]; exact h.box, hr, h.lo⟩
theorem Kp.refl (base g : Nat) (w : World) : Kp base g w w := ⟨Below.refl _ _, fun _ _ _ => rfl⟩
theorem Kp.below (h : Kp base g w w1) (hb : base ≤ w.heap.size) (b : Below w1.heap.size w1 w2) : Kp base g w w2 :=
  ⟨h.1.trans (b.mono (Nat.le_trans hb h.1.size)), fun q hq hl => (b.block q (Nat.lt_of_lt_of_le hl h.1.size)).trans (h.2 q hq hl)⟩
theorem Kp.other (h : Kp base g w w1) (hg : base ≤ g) (b : Below g w1 w2) (ho : ∀ k, k ≠ g → w2.heap[k]? = w1.heap[k]?) : Kp base g w w2 :=
  ⟨h.1.trans (b.mono hg), fun q hq hl => (ho q hq).trans (h.2 q hq hl)⟩
end
theorem swp_comm (l : List Du) {i j : Nat} (h : i ≠ j) : swp l i j = swp l j i := by
  unfold swp
  rw [List.set_comm _ _ h]
theorem up_step {l : List Du} {k : Nat} (h0 : 0 < k) (hl : (duAt l k).lt (duAt l ((k - 1) / 2))) : up k l k = up ((k - 1) / 2) (swp l ((k - 1) / 2) k) ((k - 1) / 2) := by
  obtain ⟨m, rfl⟩ : ∃ m, k = m + 1 := ⟨k - 1, by omega⟩
  rw [up, if_pos ⟨h0, hl⟩, swp_comm l (by omega : (m + 1 - 1) / 2 ≠ m + 1)]
  exact up_fuel _ _ _ _ (by omega) (Nat.le_refl _)
theorem up_stop {l : List Du} {k : Nat} (h : ¬ (0 < k ∧ (duAt l k).lt (duAt l ((k - 1) / 2)))) : up k l k = l := by
  cases k with
  | zero => rfl
  | succ m => rw [up, if_neg h]

set_option maxHeartbeats 3200000 in
set_option maxRecDepth 100000 in
theorem implUp (base B g cap : Nat) (l : List Du) (j : Nat) (w : World) (hT : l.length ≤ 1048576) (hj : j < l.length) (h : HpV base B g cap l w) :
    Calls Try.prog 78 #[.iface 93 (.pointer (some ⟨B, 0, none⟩)), .int .i64 (j : Int)] w fun e w' => e = .returned (.tuple #[]) ∧ HpV base B g cap (up j l j) w' ∧ Kp base g w w' := by
  have Hs : Hid (base ≤ w.heap.size) := Nat.le_trans h.lt.1 (Nat.le_of_lt h.lt.2)
  have L := fun (l' : List Du) (i k : Nat) (w : World) (hi : i < l'.length) (hk : k < l'.length) (hh : DusAt w (some ⟨g, 0, none⟩) l') => implLess (some ⟨g, 0, none⟩) cap l' i k w hi hk hh
  have Sw := fun (l' : List Du) (i k : Nat) (w : World) (hi : i < l'.length) (hk : k < l'.length) (hh : DuRow base w (.slice (some ⟨g, 0, none⟩) l'.length cap) l') => implSwap g cap l' i k base w hi hk hh
  obtain ⟨n, hn⟩ : ∃ n, l.length = n := ⟨_, rfl⟩
  have H0 : Hid (HpV base B g cap l w) := h
  have L' : Hid _ := L
  have Sw' : Hid _ := Sw
  have Hn : Hid (l.length = n) := hn
  rw [hn] at hT hj
  clear L Sw h hn
  go_enter Try.func78, Try.ntmps78
  go_wp2
  go_loopw [1] (fun s wr => ∃ (k : Nat) (l' : List Du), s = .int .i64 (k : Int) ∧ k < n ∧ Hid (l'.length = n ∧ up k l' k = up j l j ∧ HpV base B g cap l' wr ∧ Kp base g w wr)) (fun s _ => (intOf s).toNat)
  case atStart => exact ⟨j, l, rfl, hj, Hn.out, rfl, H0.out, Kp.refl _ _ _⟩
  case round =>
    obtain ⟨k, l', rfl, hk, HK⟩ := hrel
    by_cases hk0 : k = 0
    · subst hk0
      have E : Hid (up 0 l' 0 = up j l j) := HK.out.2.1
      have t0 : Int.tdiv (-1) 2 = 0 := rfl
      go_wp2
      go_end0
      exact ⟨rfl, by rw [← E.out]; exact HK.out.2.2.1, HK.out.2.2.2⟩
    · obtain ⟨p, hp⟩ : ∃ p, p = (k - 1) / 2 := ⟨_, rfl⟩
      have hpk : p < k := by omega
      have hw1 : ((k : Int) - 1).tdiv 2 = (p : Int) := by
        rw [Int.tdiv_eq_ediv_of_nonneg (by omega)]
        omega
      have hne : ¬ (p : Int) = (k : Int) := by omega
      have hne' : ((p : Int) == (k : Int)) = false := beq_eq_false_iff_ne.2 hne
      have C := L'.out l' k p wr (by rw [HK.out.1]; exact hk) (by rw [HK.out.1]; omega) HK.out.2.2.1.row.at
      have hm0 := m_Less HK.out.2.2.1.cell
      have U1 : Hid (decide ((duAt l' k).lt (duAt l' p)) = false → up j l j = l') := fun q => by
        rw [← HK.out.2.1]
        refine up_stop fun hh => ?_
        rw [hp] at q
        exact of_decide_eq_false q hh.2
      have U2 : Hid (decide ((duAt l' k).lt (duAt l' p)) = true → up p (swp l' p k) p = up j l j) := fun q => by
        rw [← HK.out.2.1, hp]
        rw [hp] at q
        exact (up_step (by omega) (of_decide_eq_true q)).symm
      rw [HK.out.1] at C hm0
      generalize decide ((duAt l' k).lt (duAt l' p)) = z at C U1 U2
      have hk1 : (1 : Int) ≤ (k : Int) := by omega
      have Hp : Hid (p = (k - 1) / 2) := hp
      clear hp
      go_wp2_with fail
      refine C.mono ?_
      rintro e w1 ⟨rfl, q1⟩
      have X1 : Hid (HpV base B g cap l' w1 ∧ Kp base g w w1) := ⟨HK.out.2.2.1.below q1, HK.out.2.2.2.below Hs.out q1⟩
      have Hl : Hid (l'.length = n) := HK.out.1
      clear q1 C hm0 HK
      cases z
      · have E : Hid (up j l j = l') := U1.out (by first | exact trivial | exact rfl)
        go_wp2
        go_end0
        exact ⟨rfl, by rw [E.out]; exact X1.out.1, X1.out.2⟩
      · have E : Hid (up p (swp l' p k) p = up j l j) := U2.out (by first | exact trivial | exact rfl)
        have C2 := Sw'.out l' p k w1 (by rw [Hl.out]; omega) (by rw [Hl.out]; exact hk) X1.out.1.row
        have hm1 := m_Swap X1.out.1.cell
        rw [Hl.out] at C2 hm1
        clear U1 U2
        go_wp2_with fail
        refine C2.mono ?_
        rintro e w2 ⟨rfl, q1, q2, q3⟩
        have X2 : Hid ((swp l' p k).length = n ∧ up p (swp l' p k) p = up j l j ∧ HpV base B g cap (swp l' p k) w2 ∧ Kp base g w w2) :=
          ⟨by rw [swp_len]; exact Hl.out, E.out, X1.out.1.to q1 (swp_len _ _ _) q3, X1.out.2.other X1.out.1.lt.1 q2 q3⟩
        clear q1 q2 q3 C2 hm1
        go_wp2
        go_roundw
        case rel => exact ⟨p, swp l' p k, rfl, by omega, X2.out⟩
        case measure => simp [intOf]; omega
end Go.Proofs.Ytdoijemkbjkeeaa
