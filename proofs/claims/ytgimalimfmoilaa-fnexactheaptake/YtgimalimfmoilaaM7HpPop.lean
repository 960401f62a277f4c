import Derived.Test.YtgimalimfmoilaaHpPush
import Derived.Laws.ResultCell
import Derived.Laws.CopyOwn
/-
  A due put into a heap in a variable: container/heap's Push, and the program's put. By the verifier.
-/
namespace Go.Proofs.Ytgimalimfmoilaa
open Go.RowKit Go.Shelf

theorem implLen (a : Option Addr) (n cap : Nat) (w : World) :
    Calls Try.prog 125 #[.slice a n cap] w fun e w' => e = .returned (.int .i64 (n : Int)) ∧ w' = w := by
  go_enter Try.func125, Try.ntmps125
  go_wp2
  go_ret
  exact ⟨rfl, rfl⟩
theorem HpPut.up {base B g g' cap' : Nat} {l l' : List Du} {w w1 w2 : World} (h : HpPut base B g l w w1) (hv : HpV base B g' cap' l' w2) (hg : g' = g ∨ w.heap.size ≤ g') (k : Kp base g' w1 w2) : HpPut base B g l' w w2 :=
  ⟨⟨g', cap', hv, hg⟩, h.bel.trans k.1, fun q q1 q2 q3 => (k.2 q (fun e => by rcases hg with rfl | hg <;> omega) (Nat.lt_of_lt_of_le q3 h.bel.size)).trans (h.oth q q1 q2 q3)⟩
theorem HpPut.from {base B g : Nat} {l : List Du} {w w1 w2 : World} (h : HpPut base B g l w1 w2) (b : Below w.heap.size w w1) (hb : base ≤ w.heap.size) : HpPut base B g l w w2 := by
  obtain ⟨⟨g', c', hv, hg⟩, h2, h3⟩ := h
  exact ⟨⟨g', c', hv, hg.imp id fun q => Nat.le_trans b.size q⟩, (b.mono hb).trans h2, fun k k1 k2 k3 => (h3 k k1 k2 (Nat.lt_of_lt_of_le k3 b.size)).trans (b.block k k3)⟩

set_option maxHeartbeats 1600000 in
theorem implHeapPush (base B g cap : Nat) (l : List Du) (d : Du) (w : World) (hT : l.length ≤ 1048575) (h : HpV base B g cap l w) :
    Calls Try.prog 70 #[.iface 91 (.pointer (some ⟨B, 0, none⟩)), .iface 33 d.val] w fun e w' => e = .returned (.tuple #[]) ∧ HpPut base B g (hput l d) w w' := by
  have C1 := fun (_ : Nat) => implPush base B g cap l d w (by omega) h
  have hm := m_Push (.pointer (some ⟨B, 0, none⟩))
  obtain ⟨n, hn⟩ : ∃ n, l.length = n := ⟨_, rfl⟩
  have Hn : Hid (l.length = n) := hn
  have hn1 : n ≤ 1048575 := by omega
  have C1' : Hid _ := C1
  have HU : Hid (∀ g' cap' w1, HpV base B g' cap' (l ++ [d]) w1 → Calls Try.prog 84 #[.iface 91 (.pointer (some ⟨B, 0, none⟩)), .int .i64 (n : Int)] w1 fun e w' => e = .returned (.tuple #[]) ∧ HpV base B g' cap' (hput l d) w' ∧ Kp base g' w1 w') := fun g' cap' w1 hh => by
    have := implUp base B g' cap' (l ++ [d]) n w1 (by rw [List.length_append, hn]; simp; omega) (by rw [List.length_append, hn]; simp) hh
    unfold hput
    rw [hn]
    exact this
  have hV : Hid ((l ++ [d]).length = n + 1) := by show (l ++ [d]).length = n + 1; rw [List.length_append, hn]; rfl
  clear C1 hn hT h
  unfold Du.val at C1' ⊢
  go_enter Try.func70, Try.ntmps70
  go_wp2_with fail
  refine (C1'.out 0).mono ?_
  rintro e w1 ⟨rfl, q⟩
  obtain ⟨g', cap', hv, hg⟩ := q.hp
  have Q : Hid (HpPut base B g (l ++ [d]) w w1 ∧ (g' = g ∨ w.heap.size ≤ g')) := ⟨q, hg⟩
  have hm2 := m_Len hv.cell
  rw [hV.out] at hm2
  have C3 := fun (_ : Nat) => HU.out g' cap' w1 hv
  have C3' : Hid _ := C3
  clear q hv hg C3 C1' HU hm
  go_wp2_with fail
  refine (implLen _ _ _ _).mono ?_
  rintro e w2 ⟨rfl, rfl⟩
  have e1 : ((n + 1 : Nat) : Int) - 1 = (n : Int) := by omega
  go_wp2_with fail
  refine (C3'.out 0).mono ?_
  rintro e w3 ⟨rfl, p1, p2⟩
  have Z : Hid (HpPut base B g (hput l d) w w3) := Q.out.1.up p1 Q.out.2 p2
  clear p1 p2
  go_wp2
  go_end0
  exact ⟨rfl, Z.out⟩

set_option maxHeartbeats 1600000 in
theorem implPutM (base B g cap : Nat) (l : List Du) (d : Du) (w : World) (hT : l.length ≤ 1048575) (h : HpV base B g cap l w) :
    Calls Try.prog 44 #[.pointer (some ⟨B, 0, none⟩), d.val] w fun e w' => e = .returned (.tuple #[]) ∧ HpPut base B g (hput l d) w w' := by
  have b : Below w.heap.size w (w.alloc (.cells #[.int .i64 d.time, .int .i64 d.id] 33)) := (Below.refl _ _).alloc (Nat.le_refl _) _
  have C := fun (_ : Nat) => implHeapPush base B g cap l d _ hT (h.below b)
  have C' : Hid _ := C
  have F : Hid (∀ w2, HpPut base B g (hput l d) (w.alloc (.cells #[.int .i64 d.time, .int .i64 d.id] 33)) w2 → HpPut base B g (hput l d) w w2) := fun w2 q => q.from b (Nat.le_trans h.lt.1 (Nat.le_of_lt h.lt.2))
  clear C b h hT
  obtain ⟨t, i⟩ := d
  simp only [Du.val] at C' F ⊢
  go_enter Try.func44, Try.ntmps44
  go_wp2_with fail
  refine (C'.out 0).mono ?_
  rintro e w2 ⟨rfl, q⟩
  have Z : Hid (HpPut base B g (hput l ⟨t, i⟩) w w2) := F.out _ q
  clear q
  go_wp2
  go_end0
  exact ⟨rfl, Z.out⟩
end Go.Proofs.Ytgimalimfmoilaa

/-
  The first due taken out of a heap in a variable: the program's Pop and take, container/heap's Pop. By the verifier.
-/
namespace Go.Proofs.Ytgimalimfmoilaa
open Go.RowKit Go.Shelf

theorem duRow_less {base : Nat} {w : World} {g cap : Nat} {m : List Du} {x : Du} (h : DuRow base w (.slice (some ⟨g, 0, none⟩) (m ++ [x]).length cap) (m ++ [x])) : DuRow base w (.slice (some ⟨g, 0, none⟩) m.length cap) m := by
  rcases h.2 with ⟨e, _⟩ | ⟨g', cap', cur, e, q1, q2, q3, q4, q5, q6⟩
  · cases e
  · obtain ⟨rfl, rfl⟩ : g = g' ∧ cap = cap' := by
      have := Value.slice.inj e
      exact ⟨by simpa using this.1, this.2.2⟩
    have hl := app_len (m := m) (x := x) rfl
    rw [hl] at q3 q6
    refine ⟨ducells_length m, .inr ⟨g, cap, cur, rfl, q1, q2, by omega, q4, q5, ?_⟩⟩
    have : cur.toList.take (m.length * 2) = (cur.toList.take ((m.length + 1) * 2)).take (m.length * 2) := by rw [List.take_take]; congr 1; omega
    rw [this, q6, ducells_append, ← ducells_length, List.take_left]
theorem ext_duAt {a b : List Du} (h : a.length = b.length) (g : ∀ k, k < a.length → duAt a k = duAt b k) : a = b := by
  refine List.ext_getElem h fun k h1 h2 => ?_
  have := g k h1
  rwa [duAt_lt h1, duAt_lt h2] at this
theorem swap_last {l : List Du} {n : Nat} (h : l.length = n + 1) : swp l 0 n = hmoved l ++ [duAt l 0] := by
  have hl : (hmoved l).length = n := by rw [hmoved_len, h]; rfl
  refine ext_duAt (by rw [swp_len, app_len hl, h]) fun k hk => ?_
  rw [swp_len, h] at hk
  rw [duAt_swp (by omega) (by omega)]
  by_cases e1 : k = n
  · rw [if_pos e1, e1]
    unfold duAt
    rw [List.getElem?_append_right (by omega), hl, Nat.sub_self]
    rfl
  · rw [if_neg e1, duAt_old (by omega)]
    by_cases e2 : k = 0
    · rw [if_pos e2, e2]
      unfold hmoved duAt
      rw [List.getElem?_set_self (by rw [List.length_take]; omega), h]
      rfl
    · rw [if_neg e2, duAt_moved (by omega) (by omega)]
/-- All but two blocks stay. -/
def Kq (base g B : Nat) (w w' : World) : Prop := Below base w w' ∧ ∀ k, k ≠ g → k ≠ B → k < w.heap.size → w'.heap[k]? = w.heap[k]?

set_option maxHeartbeats 1600000 in
set_option maxRecDepth 100000 in
theorem implPop (base B g cap : Nat) (m : List Du) (x : Du) (w : World) (hT : m.length ≤ 1048576) (h : HpV base B g cap (m ++ [x]) w) :
    Calls Try.prog 127 #[.pointer (some ⟨B, 0, none⟩)] w fun e w' => e = .returned (.iface 33 x.val) ∧ HpV base B g cap m w' ∧ Kq base g B w w' := by
  obtain ⟨n, hn⟩ : ∃ n, m.length = n := ⟨_, rfl⟩
  have hl := app_len (m := m) (x := x) hn
  have c0 := h.cell
  have f0 := h.box.ice 0
  have hat := h.row.at
  obtain ⟨e0, e1⟩ := hat.cells (k := n) (by rw [hl]; omega)
  have hx : duAt (m ++ [x]) n = x := by unfold duAt; rw [List.getElem?_append_right (by omega), hn, Nat.sub_self]; rfl
  rw [hx] at e0 e1
  simp only [Nat.zero_add] at e0 e1
  rw [hl] at c0
  have hcap : n + 1 ≤ cap := by have := h.row.cap; rw [hl] at this; exact this
  have hB := h.box.under
  have hBg := h.apart
  have Fin : Hid (∀ X, X = (w.setCell ⟨B, 0, none⟩ (.slice (some ⟨g, 0, none⟩) n cap)).alloc (.cells #[.int .i64 x.time, .int .i64 x.id] 33) → HpV base B g cap m X ∧ Kq base g B w X) := by
    rintro X rfl
    have b1 : Below base w (w.setCell ⟨B, 0, none⟩ (.slice (some ⟨g, 0, none⟩) n cap)) := (Below.refl _ _).setCell h.lo _
    have hs : (w.setCell ⟨B, 0, none⟩ (.slice (some ⟨g, 0, none⟩) n cap)).heap.size = w.heap.size := by simp [World.setCell]
    have v1 : HpV base B g cap m (w.setCell ⟨B, 0, none⟩ (.slice (some ⟨g, 0, none⟩) n cap)) := by
      refine ⟨?_, ?_, h.lo⟩
      · rw [hn]
        exact h.box.put 0 _
      · refine (duRow_less h.row).carry fun k hk _ => Below.heap_setCell _ _ _ _ (fun e => ?_)
        have : some g = some k := hk
        cases this
        exact hBg e.symm
    refine ⟨v1.below ((Below.refl _ _).alloc (Nat.le_refl _) _), b1.alloc (by rw [hs]; exact Nat.le_trans h.lt.1 (Nat.le_of_lt h.lt.2)) _, ?_⟩
    intro k k1 k2 k3
    rw [Below.heap_alloc _ _ _ (by rw [hs]; exact k3)]
    exact Below.heap_setCell _ _ _ _ k2
  have hn1 : (n : Int) < (n : Int) + 1 := by omega
  have hw1 : ((n : Int) + 1) - 1 = (n : Int) := by omega
  have hn2 : (n : Int) ≤ (cap : Int) := by omega
  have hn3 : n ≤ cap := by omega
  rw [hn] at hT
  obtain ⟨t, i⟩ := x
  simp only [Du.val] at e0 e1 Fin ⊢
  clear h hat hx hl hn hBg hcap
  go_enter Try.func127, Try.ntmps127
  go_wp2
  go_ret
  exact ⟨rfl, Fin.out _ rfl⟩
end Go.Proofs.Ytgimalimfmoilaa
