/-
  A due put into a heap in a variable: container/heap's Push, and the program's put. By the verifier.
-/
import Derived.Test.YtgimalimfmoilaaHpPush
namespace Go.Proofs.Ytgimalimfmoilaa
open Go.RowKit Go.Shelf

theorem implLen (a : Option Addr) (n cap : Nat) (w : World) :
    Calls Try.prog 125 #[.slice a n cap] w fun e w' => e = .returned (.int .i64 (n : Int)) ∧ w' = w := by
  go_enter Try.func125, Try.ntmps125
  go_wp2
  go_ret
  exact ⟨rfl, rfl⟩
theorem HpPut.up {base B g g' cap' : Nat} {l l' : List Du} {w w1 w2 : World} (h : HpPut base B g l w w1) (hv : HpV base B g' cap' l' w2) (hg : g' = g ∨ w.heap.size ≤ g') (k : Kp base g' w1 w2) : HpPut base B g l' w w2 :=
  ⟨⟨g', cap', hv, hg⟩, h.bel.trans k.1, fun q q1 q2 q3 => (k.2 q (fun e => by rcases hg with rfl | hg <;> omega) (Nat.lt_of_lt_of_le q3 h.bel.size)).trans (h.oth q q1 q2 q3)⟩
theorem HpPut.from {base B g : Nat} {l : List Du} {w w1 w2 : World} (h : HpPut base B g l w1 w2) (b : Below w.heap.size w w1) (hb : base ≤ w.heap.size) : HpPut base B g l w w2 := by
  obtain ⟨⟨g', c', hv, hg⟩, h2, h3⟩ := h
  exact ⟨⟨g', c', hv, hg.imp id fun q => Nat.le_trans b.size q⟩, (b.mono hb).trans h2, fun k k1 k2 k3 => (h3 k k1 k2 (Nat.lt_of_lt_of_le k3 b.size)).trans (b.block k k3)⟩

set_option maxHeartbeats 1600000 in
theorem implHeapPush (base B g cap : Nat) (l : List Du) (d : Du) (w : World) (hT : l.length ≤ 1048575) (h : HpV base B g cap l w) :
    Calls Try.prog 70 #[.iface 91 (.pointer (some ⟨B, 0, none⟩)), .iface 33 d.val] w fun e w' => e = .returned (.tuple #[]) ∧ HpPut base B g (hput l d) w w' := by
  have C1 := fun (_ : Nat) => implPush base B g cap l d w (by omega) h
  have hm := m_Push (.pointer (some ⟨B, 0, none⟩))
  obtain ⟨n, hn⟩ : ∃ n, l.length = n := ⟨_, rfl⟩
  have Hn : Hid (l.length = n) := hn
  have hn1 : n ≤ 1048575 := by omega
  have C1' : Hid _ := C1
  have HU : Hid (∀ g' cap' w1, HpV base B g' cap' (l ++ [d]) w1 → Calls Try.prog 84 #[.iface 91 (.pointer (some ⟨B, 0, none⟩)), .int .i64 (n : Int)] w1 fun e w' => e = .returned (.tuple #[]) ∧ HpV base B g' cap' (hput l d) w' ∧ Kp base g' w1 w') := fun g' cap' w1 hh => by
    have := implUp base B g' cap' (l ++ [d]) n w1 (by rw [List.length_append, hn]; simp; omega) (by rw [List.length_append, hn]; simp) hh
    unfold hput
    rw [hn]
    exact this
  have hV : Hid ((l ++ [d]).length = n + 1) := by show (l ++ [d]).length = n + 1; rw [List.length_append, hn]; rfl
  clear C1 hn hT h
  unfold Du.val at C1' ⊢
  go_enter Try.func70, Try.ntmps70
  go_wp2_with fail
  refine (C1'.out 0).mono ?_
  rintro e w1 ⟨rfl, q⟩
  obtain ⟨g', cap', hv, hg⟩ := q.hp
  have Q : Hid (HpPut base B g (l ++ [d]) w w1 ∧ (g' = g ∨ w.heap.size ≤ g')) := ⟨q, hg⟩
  have hm2 := m_Len hv.cell
  rw [hV.out] at hm2
  have C3 := fun (_ : Nat) => HU.out g' cap' w1 hv
  have C3' : Hid _ := C3
  clear q hv hg C3 C1' HU hm
  go_wp2_with fail
  refine (implLen _ _ _ _).mono ?_
  rintro e w2 ⟨rfl, rfl⟩
  have e1 : ((n + 1 : Nat) : Int) - 1 = (n : Int) := by omega
  go_wp2_with fail
  refine (C3'.out 0).mono ?_
  rintro e w3 ⟨rfl, p1, p2⟩
  have Z : Hid (HpPut base B g (hput l d) w w3) := Q.out.1.up p1 Q.out.2 p2
  clear p1 p2
  go_wp2
  go_end0
  exact ⟨rfl, Z.out⟩

set_option maxHeartbeats 1600000 in
theorem implPutM (base B g cap : Nat) (l : List Du) (d : Du) (w : World) (hT : l.length ≤ 1048575) (h : HpV base B g cap l w) :
    Calls Try.prog 44 #[.pointer (some ⟨B, 0, none⟩), d.val] w fun e w' => e = .returned (.tuple #[]) ∧ HpPut base B g (hput l d) w w' := by
  have b : Below w.heap.size w (w.alloc (.cells #[.int .i64 d.time, .int .i64 d.id] 33)) := (Below.refl _ _).alloc (Nat.le_refl _) _
  have C := fun (_ : Nat) => implHeapPush base B g cap l d _ hT (h.below b)
  have C' : Hid _ := C
  have F : Hid (∀ w2, HpPut base B g (hput l d) (w.alloc (.cells #[.int .i64 d.time, .int .i64 d.id] 33)) w2 → HpPut base B g (hput l d) w w2) := fun w2 q => q.from b (Nat.le_trans h.lt.1 (Nat.le_of_lt h.lt.2))
  clear C b h hT
  obtain ⟨t, i⟩ := d
  simp only [Du.val] at C' F ⊢
  go_enter Try.func44, Try.ntmps44
  go_wp2_with fail
  refine (C'.out 0).mono ?_
  rintro e w2 ⟨rfl, q⟩
  have Z : Hid (HpPut base B g (hput l ⟨t, i⟩) w w2) := F.out _ q
  clear q
  go_wp2
  go_end0
  exact ⟨rfl, Z.out⟩
end Go.Proofs.Ytgimalimfmoilaa
