import Derived.Test.YtkocbfikcjgigaaGreatHpPush
import Derived.Test.YtkocbfikcjgigaaGreatM11LikeWh
import Derived.Test.YtkocbfikcjgigaaGreatWhOkW
import Derived.Test.YtkocbfikcjgigaaGreatM22DzCat
import Derived.Test.YtkocbfikcjgigaaGreatM25HpDown
import Derived.Laws.ResultCell
import Derived.Laws.CopyOwn
import Derived.Deep.DeepCutAuto
import Derived.Test.YtkocbfikcjgigaaGreatM6WhCopyS
/-
  A due put into a heap in a variable: container/heap's Push, and the program's put. By the verifier.
-/
namespace Go.Proofs.YtkocbfikcjgigaaGreat
open Go.RowKit Go.Shelf

theorem implLen (a : Option Addr) (n cap : Nat) (w : World) :
    Calls Tryz.prog 117 #[.slice a n cap] w fun e w' => e = .returned (.int .i64 (n : Int)) ∧ w' = w := by
  go_enter Tryz.func117, Tryz.ntmps117
  go_wp2
  go_ret
  exact ⟨rfl, rfl⟩
theorem HpPut.up {base B g g' cap' : Nat} {l l' : List Du} {w w1 w2 : World} (h : HpPut base B g l w w1) (hv : HpV base B g' cap' l' w2) (hg : g' = g ∨ w.heap.size ≤ g') (k : Kp base g' w1 w2) : HpPut base B g l' w w2 :=
  ⟨⟨g', cap', hv, hg⟩, h.bel.trans k.1, fun q q1 q2 q3 => (k.2 q (fun e => by rcases hg with rfl | hg <;> omega) (Nat.lt_of_lt_of_le q3 h.bel.size)).trans (h.oth q q1 q2 q3)⟩
theorem HpPut.from {base B g : Nat} {l : List Du} {w w1 w2 : World} (h : HpPut base B g l w1 w2) (b : Below w.heap.size w w1) (hb : base ≤ w.heap.size) : HpPut base B g l w w2 := by
  obtain ⟨⟨g', c', hv, hg⟩, h2, h3⟩ := h
  exact ⟨⟨g', c', hv, hg.imp id fun q => Nat.le_trans b.size q⟩, (b.mono hb).trans h2, fun k k1 k2 k3 => (h3 k k1 k2 (Nat.lt_of_lt_of_le k3 b.size)).trans (b.block k k3)⟩

set_option maxHeartbeats 1600000 in
theorem implHeapPush (base B g cap : Nat) (l : List Du) (d : Du) (w : World) (hT : l.length ≤ 1048575) (h : HpV base B g cap l w) :
    Calls Tryz.prog 67 #[.iface 94 (.pointer (some ⟨B, 0, none⟩)), .iface 33 d.val] w fun e w' => e = .returned (.tuple #[]) ∧ HpPut base B g (hput l d) w w' := by
  have C1 := fun (_ : Nat) => implPush base B g cap l d w (by omega) h
  have hm := m_Push (.pointer (some ⟨B, 0, none⟩))
  obtain ⟨n, hn⟩ : ∃ n, l.length = n := ⟨_, rfl⟩
  have Hn : Hid (l.length = n) := hn
  have hn1 : n ≤ 1048575 := by omega
  have C1' : Hid _ := C1
  have HU : Hid (∀ g' cap' w1, HpV base B g' cap' (l ++ [d]) w1 → Calls Tryz.prog 78 #[.iface 94 (.pointer (some ⟨B, 0, none⟩)), .int .i64 (n : Int)] w1 fun e w' => e = .returned (.tuple #[]) ∧ HpV base B g' cap' (hput l d) w' ∧ Kp base g' w1 w') := fun g' cap' w1 hh => by
    have := implUp base B g' cap' (l ++ [d]) n w1 (by rw [List.length_append, hn]; simp; omega) (by rw [List.length_append, hn]; simp) hh
    unfold hput
    rw [hn]
    exact this
  have hV : Hid ((l ++ [d]).length = n + 1) := by show (l ++ [d]).length = n + 1; rw [List.length_append, hn]; rfl
  clear C1 hn hT h
  unfold Du.val at C1' ⊢
  go_enter Tryz.func67, Tryz.ntmps67
  go_wp2_with fail
  refine (C1'.out 0).mono ?_
  rintro e w1 ⟨rfl, q⟩
  obtain ⟨g', cap', hv, hg⟩ := q.hp
  have Q : Hid (HpPut base B g (l ++ [d]) w w1 ∧ (g' = g ∨ w.heap.size ≤ g')) := ⟨q, hg⟩
  have hm2 := m_Len hv.cell
  rw [hV.out] at hm2
  have C3 := fun (_ : Nat) => HU.out g' cap' w1 hv
  have C3' : Hid _ := C3
  clear q hv hg C3 C1' HU hm
  go_wp2_with fail
  refine (implLen _ _ _ _).mono ?_
  rintro e w2 ⟨rfl, rfl⟩
  have e1 : ((n + 1 : Nat) : Int) - 1 = (n : Int) := by omega
  go_wp2_with fail
  refine (C3'.out 0).mono ?_
  rintro e w3 ⟨rfl, p1, p2⟩
  have Z : Hid (HpPut base B g (hput l d) w w3) := Q.out.1.up p1 Q.out.2 p2
  clear p1 p2
  go_wp2
  go_end0
  exact ⟨rfl, Z.out⟩

set_option maxHeartbeats 1600000 in
theorem implPutM (base B g cap : Nat) (l : List Du) (d : Du) (w : World) (hT : l.length ≤ 1048575) (h : HpV base B g cap l w) :
    Calls Tryz.prog 38 #[.pointer (some ⟨B, 0, none⟩), d.val] w fun e w' => e = .returned (.tuple #[]) ∧ HpPut base B g (hput l d) w w' := by
  have b : Below w.heap.size w (w.alloc (.cells #[.int .i64 d.time, .int .i64 d.id] 33)) := (Below.refl _ _).alloc (Nat.le_refl _) _
  have C := fun (_ : Nat) => implHeapPush base B g cap l d _ hT (h.below b)
  have C' : Hid _ := C
  have F : Hid (∀ w2, HpPut base B g (hput l d) (w.alloc (.cells #[.int .i64 d.time, .int .i64 d.id] 33)) w2 → HpPut base B g (hput l d) w w2) := fun w2 q => q.from b (Nat.le_trans h.lt.1 (Nat.le_of_lt h.lt.2))
  clear C b h hT
  obtain ⟨t, i⟩ := d
  simp only [Du.val] at C' F ⊢
  go_enter Tryz.func38, Tryz.ntmps38
  go_wp2_with fail
  refine (C'.out 0).mono ?_
  rintro e w2 ⟨rfl, q⟩
  have Z : Hid (HpPut base B g (hput l ⟨t, i⟩) w w2) := F.out _ q
  clear q
  go_wp2
  go_end0
  exact ⟨rfl, Z.out⟩
end Go.Proofs.YtkocbfikcjgigaaGreat

/-
  The walk of the program's ToHeap. By the verifier.
-/
namespace Go.Proofs.YtkocbfikcjgigaaGreat
open Go.RowKit Go.Shelf

theorem drain_sorted (n : Nat) : ∀ (r : Wh) (l o : List Du), r.ok = true → r.cnt = n → l.Perm r.slots.flatten → Sorted l → drain n r o = l.foldl hput o := by
  induction n with
  | zero =>
    intro r l o hk hn hp hs
    have e : r.slots.flatten = [] := List.eq_nil_of_length_eq_zero hn
    rw [e] at hp
    rw [hp.eq_nil]
    rfl
  | succ n ih =>
    intro r l o hk hn hp hs
    cases hb : r.takeB with
    | false =>
      have := Wh.take_none hk hb
      unfold Wh.cnt at hn
      rw [this] at hn
      simp at hn
    | true =>
      have ht := Wh.take_is hb
      have hc := Wh.cnt_take hb
      rw [drain, if_pos hb]
      have hl0 : 0 < l.length := by rw [hp.length_eq, ← ht.2.1.length_eq]; simp
      have hmem : duAt l 0 ∈ l := by rw [duAt_lt hl0]; exact List.getElem_mem hl0
      have hmin : ∀ x ∈ l, ¬ x.lt (duAt l 0) := fun x hx => by
        obtain ⟨i, hi, e⟩ := List.mem_iff_getElem.1 hx
        by_cases h0 : i = 0
        · subst h0
          rw [← e, duAt_lt hl0]
          exact Du.lt_irrefl _
        · have := hs 0 i (by omega) hi
          rw [duAt_lt hi, e] at this
          exact this
      have e : duAt l 0 = r.takeD := first_same hp hmem (ht.2.1.subset (List.mem_cons_self ..)) hmin ht.2.2.1
      match l, hl0, hp, hs, e with
      | x :: t, _, hp, hs, e =>
        have e : x = r.takeD := e
        subst e
        show _ = t.foldl hput (hput o _)
        refine ih r.take t _ ht.1 (by omega) ((hp.trans ht.2.1.symm).cons_inv) ?_
        intro i j hij hj
        exact hs (i + 1) (j + 1) (by omega) (by simpa using hj)
theorem toH_sorted {r : Wh} {l : List Du} (h : r.ok = true) (hp : l.Perm r.slots.flatten) (hs : Sorted l) : toH r = l.foldl hput [] := by
  unfold toH
  rw [if_pos h]
  exact drain_sorted _ r l [] h rfl hp hs
theorem foldl_next {l : List Du} {k : Nat} (h : k < l.length) : (l.take (k + 1)).foldl hput [] = hput ((l.take k).foldl hput []) (duAt l k) := by
  rw [List.take_succ_eq_append_getElem h, List.foldl_append, duAt_lt h]
  rfl
theorem foldl_len {l : List Du} (k : Nat) (h : k ≤ l.length) : ((l.take k).foldl hput []).length = k := by
  induction k with
  | zero => simp
  | succ k ih =>
    rw [foldl_next (by omega), (hput_perm _ _).length_eq, List.length_cons, ih (by omega)]
/-- What lies in ToHeap's loop. -/
structure HtL (S B gl : Nat) (o l : List Du) (w0 w : World) : Prop where
  hp : ∃ g cap, HpV S B g cap o w ∧ gl ≠ g
  row : DuRow S w (.slice (some ⟨gl, 0, none⟩) l.length l.length) l
  far : gl ≠ B
  bel : Below S w0 w
  up : S ≤ w.heap.size
theorem HtL.below {S B gl : Nat} {o l : List Du} {w0 w w' : World} (h : HtL S B gl o l w0 w) (q : Below w.heap.size w w') : HtL S B gl o l w0 w' := by
  obtain ⟨⟨g, c, h1, h2⟩, h3, h4, h5, h6⟩ := h
  exact ⟨⟨g, c, h1.below q, h2⟩, h3.below (fun k hk => (h3.lt k hk).2) q, h4, h5.trans (q.mono h6), Nat.le_trans h6 q.size⟩
theorem HtL.put {S B gl g : Nat} {o o' l : List Du} {w0 w w' : World} (h : HtL S B gl o l w0 w) (hg : gl ≠ g) (q : HpPut S B g o' w w') : HtL S B gl o' l w0 w' := by
  obtain ⟨-, h3, h4, h5, h6⟩ := h
  obtain ⟨⟨g', c', k1, k2⟩, k3, k4⟩ := q
  have hlt := (h3.lt gl rfl).2
  refine ⟨⟨g', c', k1, ?_⟩, h3.carry fun k hk _ => ?_, h4, h5.trans k3, Nat.le_trans h6 k3.size⟩
  · rcases k2 with rfl | k2
    · exact hg
    · omega
  · have e : k = gl := by cases hk; rfl
    subst e
    exact k4 k hg h4 hlt
end Go.Proofs.YtkocbfikcjgigaaGreat

/-
  The first due taken out of a heap in a variable: the program's Pop and take, container/heap's Pop. By the verifier.
-/
namespace Go.Proofs.YtkocbfikcjgigaaGreat
open Go.RowKit Go.Shelf

theorem duRow_less {base : Nat} {w : World} {g cap : Nat} {m : List Du} {x : Du} (h : DuRow base w (.slice (some ⟨g, 0, none⟩) (m ++ [x]).length cap) (m ++ [x])) : DuRow base w (.slice (some ⟨g, 0, none⟩) m.length cap) m := by
  rcases h.2 with ⟨e, _⟩ | ⟨g', cap', cur, e, q1, q2, q3, q4, q5, q6⟩
  · cases e
  · obtain ⟨rfl, rfl⟩ : g = g' ∧ cap = cap' := by
      have := Value.slice.inj e
      exact ⟨by simpa using this.1, this.2.2⟩
    have hl := app_len (m := m) (x := x) rfl
    rw [hl] at q3 q6
    refine ⟨ducells_length m, .inr ⟨g, cap, cur, rfl, q1, q2, by omega, q4, q5, ?_⟩⟩
    have : cur.toList.take (m.length * 2) = (cur.toList.take ((m.length + 1) * 2)).take (m.length * 2) := by rw [List.take_take]; congr 1; omega
    rw [this, q6, ducells_append, ← ducells_length, List.take_left]
theorem ext_duAt {a b : List Du} (h : a.length = b.length) (g : ∀ k, k < a.length → duAt a k = duAt b k) : a = b := by
  refine List.ext_getElem h fun k h1 h2 => ?_
  have := g k h1
  rwa [duAt_lt h1, duAt_lt h2] at this
theorem swap_last {l : List Du} {n : Nat} (h : l.length = n + 1) : swp l 0 n = hmoved l ++ [duAt l 0] := by
  have hl : (hmoved l).length = n := by rw [hmoved_len, h]; rfl
  refine ext_duAt (by rw [swp_len, app_len hl, h]) fun k hk => ?_
  rw [swp_len, h] at hk
  rw [duAt_swp (by omega) (by omega)]
  by_cases e1 : k = n
  · rw [if_pos e1, e1]
    unfold duAt
    rw [List.getElem?_append_right (by omega), hl, Nat.sub_self]
    rfl
  · rw [if_neg e1, duAt_old (by omega)]
    by_cases e2 : k = 0
    · rw [if_pos e2, e2]
      unfold hmoved duAt
      rw [List.getElem?_set_self (by rw [List.length_take]; omega), h]
      rfl
    · rw [if_neg e2, duAt_moved (by omega) (by omega)]
/-- All but two blocks stay. -/
def Kq (base g B : Nat) (w w' : World) : Prop := Below base w w' ∧ ∀ k, k ≠ g → k ≠ B → k < w.heap.size → w'.heap[k]? = w.heap[k]?

set_option maxHeartbeats 1600000 in
set_option maxRecDepth 100000 in
theorem implPop (base B g cap : Nat) (m : List Du) (x : Du) (w : World) (hT : m.length ≤ 1048576) (h : HpV base B g cap (m ++ [x]) w) :
    Calls Tryz.prog 119 #[.pointer (some ⟨B, 0, none⟩)] w fun e w' => e = .returned (.iface 33 x.val) ∧ HpV base B g cap m w' ∧ Kq base g B w w' := by
  obtain ⟨n, hn⟩ : ∃ n, m.length = n := ⟨_, rfl⟩
  have hl := app_len (m := m) (x := x) hn
  have c0 := h.cell
  have f0 := h.box.ice 0
  have hat := h.row.at
  obtain ⟨e0, e1⟩ := hat.cells (k := n) (by rw [hl]; omega)
  have hx : duAt (m ++ [x]) n = x := by unfold duAt; rw [List.getElem?_append_right (by omega), hn, Nat.sub_self]; rfl
  rw [hx] at e0 e1
  simp only [Nat.zero_add] at e0 e1
  rw [hl] at c0
  have hcap : n + 1 ≤ cap := by have := h.row.cap; rw [hl] at this; exact this
  have hB := h.box.under
  have hBg := h.apart
  have Fin : Hid (∀ X, X = (w.setCell ⟨B, 0, none⟩ (.slice (some ⟨g, 0, none⟩) n cap)).alloc (.cells #[.int .i64 x.time, .int .i64 x.id] 33) → HpV base B g cap m X ∧ Kq base g B w X) := by
    rintro X rfl
    have b1 : Below base w (w.setCell ⟨B, 0, none⟩ (.slice (some ⟨g, 0, none⟩) n cap)) := (Below.refl _ _).setCell h.lo _
    have hs : (w.setCell ⟨B, 0, none⟩ (.slice (some ⟨g, 0, none⟩) n cap)).heap.size = w.heap.size := by simp [World.setCell]
    have v1 : HpV base B g cap m (w.setCell ⟨B, 0, none⟩ (.slice (some ⟨g, 0, none⟩) n cap)) := by
      refine ⟨?_, ?_, h.lo⟩
      · rw [hn]
        exact h.box.put 0 _
      · refine (duRow_less h.row).carry fun k hk _ => Below.heap_setCell _ _ _ _ (fun e => ?_)
        have : some g = some k := hk
        cases this
        exact hBg e.symm
    refine ⟨v1.below ((Below.refl _ _).alloc (Nat.le_refl _) _), b1.alloc (by rw [hs]; exact Nat.le_trans h.lt.1 (Nat.le_of_lt h.lt.2)) _, ?_⟩
    intro k k1 k2 k3
    rw [Below.heap_alloc _ _ _ (by rw [hs]; exact k3)]
    exact Below.heap_setCell _ _ _ _ k2
  have hn1 : (n : Int) < (n : Int) + 1 := by omega
  have hw1 : ((n : Int) + 1) - 1 = (n : Int) := by omega
  have hn2 : (n : Int) ≤ (cap : Int) := by omega
  have hn3 : n ≤ cap := by omega
  rw [hn] at hT
  obtain ⟨t, i⟩ := x
  simp only [Du.val] at e0 e1 Fin ⊢
  clear h hat hx hl hn hBg hcap
  go_enter Tryz.func119, Tryz.ntmps119
  go_wp2
  go_ret
  exact ⟨rfl, Fin.out _ rfl⟩
end Go.Proofs.YtkocbfikcjgigaaGreat

/-
  A list in a new variable, as a heap. By the verifier.
-/
namespace Go.Proofs.YtkocbfikcjgigaaGreat
open Go.RowKit Go.Shelf

/-- A copy of a list in a new variable. -/
theorem hp_new {base : Nat} {w : World} {g cap : Nat} {l : List Du} (h : DuRow base w (.slice (some ⟨g, 0, none⟩) l.length cap) l) (hb : base ≤ w.heap.size) :
    HpV base w.heap.size g cap l (w.alloc (.cells #[.slice (some ⟨g, 0, none⟩) l.length cap] 67)) :=
  ⟨Boxed.new w _ _, h.alloc _, hb⟩
end Go.Proofs.YtkocbfikcjgigaaGreat

/-
  The walks of container/heap's Pop, of the program's take and HeapTake. By the verifier.
-/
namespace Go.Proofs.YtkocbfikcjgigaaGreat
open Go.RowKit Go.Shelf

section
variable {base g B : Nat} {w w1 w2 : World}
theorem Kq.step (h : Kq base g B w w1) (k : Kp base g w1 w2) : Kq base g B w w2 :=
  ⟨h.1.trans k.1, fun q q1 q2 q3 => (k.2 q q1 (Nat.lt_of_lt_of_le q3 h.1.size)).trans (h.2 q q1 q2 q3)⟩
theorem Kq.trans (h : Kq base g B w w1) (k : Kq base g B w1 w2) : Kq base g B w w2 :=
  ⟨h.1.trans k.1, fun q q1 q2 q3 => (k.2 q q1 q2 (Nat.lt_of_lt_of_le q3 h.1.size)).trans (h.2 q q1 q2 q3)⟩
theorem Kq.of (k : Kp base g w w1) : Kq base g B w w1 := ⟨k.1, fun q q1 _ q3 => k.2 q q1 q3⟩
theorem Kq.from (h : Kq base g B w1 w2) (b : Below w.heap.size w w1) (hb : base ≤ w.heap.size) : Kq base g B w w2 :=
  ⟨(b.mono hb).trans h.1, fun k k1 k2 k3 => (h.2 k k1 k2 (Nat.lt_of_lt_of_le k3 b.size)).trans (b.block k k3)⟩
end
set_option maxHeartbeats 1600000 in
theorem implHeapPop (base B g cap : Nat) (l : List Du) (w : World) (hT : l.length ≤ 1048576) (h0 : 0 < l.length) (h : HpV base B g cap l w) :
    Calls Tryz.prog 72 #[.iface 94 (.pointer (some ⟨B, 0, none⟩))] w fun e w' => e = .returned (.iface 33 (duAt l 0).val) ∧ HpV base B g cap (htake l) w' ∧ Kq base g B w w' := by
  obtain ⟨n, hn⟩ : ∃ n, l.length = n + 1 := ⟨l.length - 1, by omega⟩
  have hml : (hmoved l).length = n := by rw [hmoved_len, hn]; rfl
  have C2 := fun (_ : Nat) => implSwap g cap l 0 n base w (by omega) (by omega) h.row
  rw [swap_last hn, hn] at C2
  have C3 : Hid (∀ w1, HpV base B g cap (hmoved l ++ [duAt l 0]) w1 → Calls Tryz.prog 80 #[.iface 94 (.pointer (some ⟨B, 0, none⟩)), .int .i64 0, .int .i64 (n : Int)] w1 fun e w' => (∃ b, e = .returned (.bool b)) ∧ HpV base B g cap (htake l ++ [duAt l 0]) w' ∧ Kp base g w1 w') := fun w1 hh => by
    have := implDown base B g cap (hmoved l) (duAt l 0) n w1 hml (by omega) hh
    have e : htake l = down n (hmoved l) 0 := by unfold htake; rw [hn]; rfl
    rw [e]
    exact this
  have C4 : Hid (∀ w1, HpV base B g cap (htake l ++ [duAt l 0]) w1 → Calls Tryz.prog 119 #[.pointer (some ⟨B, 0, none⟩)] w1 fun e w' => e = .returned (.iface 33 (duAt l 0).val) ∧ HpV base B g cap (htake l) w' ∧ Kq base g B w1 w') := fun w1 hh => implPop base B g cap (htake l) (duAt l 0) w1 (by rw [htake_len]; omega) hh
  have hm1 := m_Len h.cell
  have hm2 := m_Swap h.cell
  rw [hn] at hm1 hm2
  have hm4 := m_Pop (.pointer (some ⟨B, 0, none⟩))
  have S1 : Hid (∀ w1, DuRow base w1 (.slice (some ⟨g, 0, none⟩) (hmoved l ++ [duAt l 0]).length cap) (hmoved l ++ [duAt l 0]) → Below g w w1 → (∀ k, k ≠ g → w1.heap[k]? = w.heap[k]?) → HpV base B g cap (hmoved l ++ [duAt l 0]) w1 ∧ Kp base g w w1) := fun w1 q1 q2 q3 =>
    ⟨h.to q1 (by rw [app_len hml, hn]) q3, (Kp.refl base g w).other h.lt.1 q2 q3⟩
  have C2' : Hid _ := C2
  have hw1 : ((n + 1 : Nat) : Int) - 1 = (n : Int) := by omega
  rw [hn] at hT
  clear C2 h h0 hn hml
  generalize (duAt l 0).val = dv at C4 ⊢
  go_enter Tryz.func72, Tryz.ntmps72
  go_wp2_with fail
  refine (implLen _ _ _ _).mono ?_
  rintro e w0 ⟨rfl, rfl⟩
  go_wp2_with fail
  refine (C2'.out 0).mono ?_
  rintro e w1 ⟨rfl, q1, q2, q3⟩
  have X1 := S1.out w1 q1 q2 q3
  have X1' : Hid _ := X1
  clear q1 q2 q3 hm1 hm2 C2' S1 X1
  go_wp2_with fail
  refine (C3.out _ X1'.out.1).mono ?_
  rintro e w2 ⟨⟨b, rfl⟩, q1, q2⟩
  have X2 : Hid (HpV base B g cap (htake l ++ [duAt l 0]) w2 ∧ Kq base g B w0 w2) := ⟨q1, (Kq.of X1'.out.2).step q2⟩
  clear q1 q2 C3
  go_wp2_with fail
  refine (C4.out _ X2.out.1).mono ?_
  rintro e w3 ⟨rfl, q1, q2⟩
  have X3 : Hid (HpV base B g cap (htake l) w3 ∧ Kq base g B w0 w3) := ⟨q1, X2.out.2.trans q2⟩
  clear q1 q2 C4
  go_wp2
  go_ret
  exact ⟨rfl, X3.out⟩

set_option maxHeartbeats 1600000 in
theorem implTakeM (base B g cap : Nat) (l : List Du) (w : World) (hT : l.length ≤ 1048576) (h0 : 0 < l.length) (h : HpV base B g cap l w) :
    Calls Tryz.prog 54 #[.pointer (some ⟨B, 0, none⟩)] w fun e w' => e = .returned (duAt l 0).val ∧ HpV base B g cap (htake l) w' ∧ Kq base g B w w' := by
  have b : Below w.heap.size w (w.alloc (.cells #[.int .i64 0, .int .i64 0] 33)) := (Below.refl _ _).alloc (Nat.le_refl _) _
  have hs : base ≤ w.heap.size := Nat.le_trans h.lt.1 (Nat.le_of_lt h.lt.2)
  have C := fun (_ : Nat) => implHeapPop base B g cap l _ hT h0 (h.below b)
  have hgB : g < w.heap.size ∧ B < w.heap.size := ⟨h.lt.2, h.box.under⟩
  have C' : Hid _ := C
  have hA := asDue (duAt l 0).val
  have F : Hid (∀ w2, HpV base B g cap (htake l) w2 → Kq base g B (w.alloc (.cells #[.int .i64 0, .int .i64 0] 33)) w2 → Boxed w2 w.heap.size #[.int .i64 0, .int .i64 0] 33 ∧ ∀ cs, HpV base B g cap (htake l) (w2.setRow w.heap.size cs) ∧ Kq base g B w (w2.setRow w.heap.size cs)) := fun w2 q1 q2 => by
    have o : ∀ (cs : Array Value) (k : Nat), k ≠ w.heap.size → (w2.setRow w.heap.size cs).heap[k]? = w2.heap[k]? := fun cs k hk => setRow_other _ _ _ _ hk
    refine ⟨?_, fun cs => ⟨⟨?_, ?_, q1.lo⟩, ?_, ?_⟩⟩
    · unfold Boxed
      rw [q2.2 w.heap.size (by omega) (by omega) (by simp)]
      exact Boxed.new w _ _
    · unfold Boxed
      rw [o cs B (by omega)]
      exact q1.box
    · refine q1.row.carry fun k hk _ => o cs k ?_
      have : some g = some k := hk
      cases this
      omega
    · exact below_setRow ((b.mono hs).trans q2.1) hs _
    · intro k k1 k2 k3
      rw [o cs k (by omega)]
      exact (q2.from b hs).2 k k1 k2 k3
  clear C b h hT h0 hs hgB
  obtain ⟨t, i⟩ : ∃ x : Du, x = duAt l 0 := ⟨_, rfl⟩
  generalize htake l = hl at C' F ⊢
  generalize duAt l 0 = dd at C' hA ⊢
  obtain ⟨t0, i0⟩ := dd
  simp only [Du.val] at C' hA ⊢
  go_enter Tryz.func54, Tryz.ntmps54
  go_wp2_with fail
  refine (C'.out 0).mono ?_
  rintro e w2 ⟨rfl, q1, q2⟩
  have X := F.out w2 q1 q2
  have X' : Hid _ := X
  clear q1 q2 X F C'
  go_wp2_with (refine wpList_store_row rfl 33 (.tmp 2) (.tmp 6) rfl w.heap.size #[.int .i64 t0, .int .i64 i0] rfl rfl _ _ X'.out.1 (by kernel_rfl) rfl (by simp [Value.oneCell']) ?_)
  exact bodyPost_ret (results_cell_row Tryz.results54 _ _ w.heap.size _ _ _ _ rfl (setRow_heap _ w.heap.size _ _ _ _ X'.out.1) Tryz.underlying33 rfl (by kernel_rfl)) rfl ⟨rfl, X'.out.2 _⟩
end Go.Proofs.YtkocbfikcjgigaaGreat
