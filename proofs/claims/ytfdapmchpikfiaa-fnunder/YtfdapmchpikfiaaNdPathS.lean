/-
  The walks of the model's path of a node. By the verifier.
-/
import Derived.Test.YtfdapmchpikfiaaNdSpec
import Derived.Test.YtfdapmchpikfiaaIntRow
namespace Go.Proofs.Ytfdapmchpikfiaa
open Go.RowKit

set_option maxHeartbeats 3200000 in
set_option maxRecDepth 100000 in
theorem specIn15 (a : Option Addr) (cap : Nat) (l : List Nd) (n : Int) (w : World) (hT : l.length ≤ 1048576) (h : Hid (NdsAt w a l)) :
    Calls Try.prog 40 #[.slice a l.length cap, .int .i64 n] w fun e w' => e = .returned (.bool (tin l n)) ∧ Below w.heap.size w w' := by
  have A1 := fun (_ : Nat) => specTreeOk a cap l w hT h
  have Ht : Hid (tin l n = (tok l && (decide (0 ≤ n) && decide (n < (l.length : Int))))) := rfl
  generalize tin l n = R at Ht ⊢
  generalize tok l = b1 at Ht A1
  generalize l.length = len at hT Ht A1 ⊢
  have A1' : Hid _ := A1
  clear A1
  go_enter Try.func40, Try.ntmps40
  go_wp2_with fail
  refine (A1'.out 0).mono ?_
  rintro e w1 ⟨rfl, q⟩
  have B : Hid (Below w.heap.size w w1) := q
  clear q A1'
  cases b1
  · go_wp2
    go_ret
    exact ⟨ret_bool (by rw [Ht.out]; rfl), B.out⟩
  by_cases h0 : 0 ≤ n
  · have h0' : decide (0 ≤ n) = true := decide_eq_true h0
    by_cases h1 : n < (len : Int)
    · have h1' : decide (n < (len : Int)) = true := decide_eq_true h1
      go_wp2
      go_ret
      exact ⟨ret_bool (by rw [Ht.out]; simp [h0, h1]), B.out⟩
    · have h1' : decide (n < (len : Int)) = false := decide_eq_false h1
      go_wp2
      go_ret
      exact ⟨ret_bool (by rw [Ht.out]; simp [h0, h1]), B.out⟩
  · have h0' : decide (0 ≤ n) = false := decide_eq_false h0
    go_wp2
    go_ret
    exact ⟨ret_bool (by rw [Ht.out, h0']; rfl), B.out⟩

set_option maxHeartbeats 3200000 in
set_option maxRecDepth 100000 in
theorem specPath (a : Option Addr) (cap : Nat) (l : List Nd) (n : Int) (w : World) (hin : tin l n = true) (h : Hid (NdsAt w a l)) :
    Calls Try.prog 42 #[.slice a l.length cap, .int .i64 n] w fun e w' => (∃ v, e = .returned v ∧ IRow w.heap.size w' v (path l n)) ∧ Below w.heap.size w w' := by
  obtain ⟨hok, h0, h1⟩ := tin_iff.1 hin
  have Hk : Hid (tok l = true ∧ l.length ≤ 12 ∧ (path l n).length ≤ 12) := ⟨hok, (tok_iff.1 hok).2.1, by have := path_len hok (by omega) h1; have := (tok_iff.1 hok).2.1; omega⟩
  obtain ⟨P, hP⟩ : ∃ P, P = path l n := ⟨_, rfl⟩
  rw [← hP] at Hk ⊢
  have HP : Hid (([] : List Int) ++ path l n = P) := by show [] ++ path l n = P; rw [hP]; rfl
  clear hP hin hok
  obtain ⟨len, hlen⟩ : ∃ m, l.length = m := ⟨_, rfl⟩
  rw [hlen] at h1 ⊢
  have Hlen : Hid (l.length = len) := hlen
  clear hlen
  have E0 : Hid (IRow w.heap.size (w.alloc (.cells #[] 2)) (.slice (some ⟨w.heap.size, 0, none⟩) 0 0) [] ∧ Below w.heap.size w (w.alloc (.cells #[] 2))) := ⟨irow_built w w.heap.size (Nat.le_refl _), (Below.refl _ _).alloc (Nat.le_refl _) _⟩
  go_enter Try.func42, Try.ntmps42
  go_wp2
  generalize w.alloc (.cells #[] 2) = wb at E0 ⊢
  go_loopw [1, 5] (fun s v wr => ∃ m : Int, s = .int .i64 m ∧ -1 ≤ m ∧ m < (len : Int) ∧ Hid (∃ acc : List Int, acc ++ path l m = P ∧ IRow w.heap.size wr v acc ∧ Below w.heap.size w wr)) (fun s _ _ => (intOf s + 1).toNat)
  case atStart => exact ⟨n, rfl, by omega, h1, [], HP.out, E0.out.1, E0.out.2⟩
  case round =>
    obtain ⟨m, rfl, m0, m1, HA⟩ := hrel
    obtain ⟨acc, hacc, hrow, hbel⟩ := HA.out
    clear HA E0
    by_cases hm : 0 ≤ m
    · obtain ⟨k, rfl⟩ := Int.eq_ofNat_of_zero_le hm
      have hk : k < len := by omega
      obtain ⟨b1, o1, ha1, hb1, -⟩ := h.out k (by rw [Hlen.out]; exact hk)
      subst ha1
      have hnx := path_next (n := (k : Int)) Hk.out.1 (by omega) (by rw [Hlen.out]; omega)
      have hup := tok_at Hk.out.1 (k := k) (by rw [Hlen.out]; exact hk)
      rw [Int.toNat_natCast] at hnx
      rw [hnx] at hacc
      have Nx : Hid (∀ w2, Below w.heap.size w w2 → w2.cell? ⟨b1, o1 + k * 5, none⟩ = some (.int .i64 (ndAt l k).up)) := fun w2 q => ((h.out.below q).cells (k := k) (by rw [Hlen.out]; exact hk)).1
      have Hu : Hid (-1 ≤ (ndAt l k).up ∧ (ndAt l k).up < k) := ⟨hup.2.2.1, hup.2.2.2.1⟩
      generalize (ndAt l k).up = u at hacc Nx Hu
      have Ha : Hid ((acc ++ [(k : Int)]) ++ path l u = P) := by show (acc ++ [(k : Int)]) ++ path l u = P; rw [List.append_assoc]; exact hacc
      have Hl : Hid (acc.length ≤ 1000000) := by
        show acc.length ≤ 1000000
        have := congrArg List.length hacc
        rw [List.length_append] at this
        have := Hk.out.2.2
        omega
      have Hr : Hid (IRow w.heap.size wr u5 acc ∧ Below w.heap.size w wr) := ⟨hrow, hbel⟩
      clear hnx hup hacc hrow hbel hb1
      go_wp2_with (refine row_iapp1 rfl (.tmp 9) (.tmp 11) rfl w.heap.size _ acc (k : Int) rfl Hr.out.1 rfl Hl.out Hr.out.2.size ?_; intro v' w2 q1 q2; have q3 : Below w.heap.size w w2 := Hr.out.2.trans q2; have c0 := Nx.out w2 q3; have R2 : Hid (IRow w.heap.size w2 v' (acc ++ [(k : Int)]) ∧ Below w.heap.size w w2) := ⟨q1, q3⟩; clear q1 q2 q3)
      go_roundw
      case rel => exact ⟨u, rfl, Hu.out.1, by have := Hu.out.2; omega, _, Ha.out, R2.out⟩
      case measure => simp [intOf]; have := Hu.out; omega
    · obtain rfl : m = -1 := by omega
      rw [path_end, List.append_nil] at hacc
      have Hr : Hid (IRow w.heap.size wr u5 acc ∧ Below w.heap.size w wr) := ⟨hrow, hbel⟩
      subst hacc
      clear hrow hbel
      go_wp2
      go_ret
      exact ⟨⟨_, rfl, Hr.out.1⟩, Hr.out.2⟩

set_option maxHeartbeats 1600000 in
set_option maxRecDepth 100000 in
theorem specPathOf (a : Option Addr) (cap : Nat) (l : List Nd) (n : Int) (w : World) (hT : l.length ≤ 1048576) (h : Hid (NdsAt w a l)) :
    Calls Try.prog 16 #[.slice a l.length cap, .int .i64 n] w fun e w' => (∃ v, e = .returned v ∧ IRow w.heap.size w' v (pathOf l n)) ∧ Below w.heap.size w w' := by
  have A1 := fun (_ : Nat) => specIn15 a cap l n w hT h
  have A2 : Hid (tin l n = true → ∀ w1, NdsAt w1 a l → Calls Try.prog 42 #[.slice a l.length cap, .int .i64 n] w1 fun e w' => (∃ v, e = .returned v ∧ IRow w1.heap.size w' v (pathOf l n)) ∧ Below w1.heap.size w1 w') := fun hin w1 hh => by
    unfold pathOf
    rw [if_pos hin]
    exact specPath a cap l n w1 hin hh
  have Hn : Hid (tin l n = false → pathOf l n = []) := fun e => by unfold pathOf; rw [if_neg (by rw [e]; decide)]
  generalize pathOf l n = R at A2 Hn ⊢
  generalize tin l n = b1 at A1 A2 Hn
  generalize l.length = len at hT A1 A2 ⊢
  have A1' : Hid _ := A1
  clear A1
  go_enter Try.func16, Try.ntmps16
  go_wp2_with fail
  refine (A1'.out 0).mono ?_
  rintro e w1 ⟨rfl, q⟩
  have B : Hid (Below w.heap.size w w1 ∧ NdsAt w1 a l) := ⟨q, h.out.below q⟩
  clear q A1' h
  cases b1
  · have e := Hn.out rfl
    subst e
    have E0 : Hid (IRow w.heap.size (w1.alloc (.cells #[] 2)) (.slice (some ⟨w1.heap.size, 0, none⟩) 0 0) [] ∧ Below w.heap.size w (w1.alloc (.cells #[] 2))) := ⟨irow_built w1 w.heap.size B.out.1.size, B.out.1.trans ((Below.refl _ _).alloc B.out.1.size _)⟩
    clear A2
    go_wp2
    go_ret
    exact ⟨⟨_, rfl, E0.out.1⟩, E0.out.2⟩
  · have A3 : Hid _ := fun (_ : Nat) => A2.out rfl w1 B.out.2
    clear A2
    go_wp2_with fail
    refine (A3.out 0).mono ?_
    rintro e w2 ⟨⟨v, rfl, r⟩, q⟩
    have E0 : Hid (IRow w.heap.size w2 v R ∧ Below w.heap.size w w2) := ⟨r.mono B.out.1.size, B.out.1.trans (q.mono B.out.1.size)⟩
    clear A3 r q
    go_wp2
    go_ret
    exact ⟨⟨_, rfl, E0.out.1⟩, E0.out.2⟩
end Go.Proofs.Ytfdapmchpikfiaa
