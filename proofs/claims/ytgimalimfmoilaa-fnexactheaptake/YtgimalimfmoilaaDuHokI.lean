/-
  The walks of the program's orderlyOf and HeapOk. By the verifier.
-/
import Derived.Test.YtgimalimfmoilaaDuSortI
import Derived.Test.YtgimalimfmoilaaDuHpI
namespace Go.Proofs.Ytgimalimfmoilaa
open Go.RowKit Go.Shelf

theorem sorted_rise {l : List Du} (h : Sorted l) : riseK l l.length = true ↔ l.Nodup := by
  rw [riseK_is]
  constructor
  · intro q
    exact (rise_adj q).nodup
  · intro q k k0 hk
    have h1 := h (k - 1) k (by omega) hk
    apply Classical.byContradiction
    intro n
    have e := Du.eq_of n h1
    rw [duAt_lt hk, duAt_lt (by omega : k - 1 < l.length)] at e
    have := (List.getElem_inj q).1 e
    omega
theorem hok_prog {l l' : List Du} (hp : l'.Perm l) (hs : Sorted l') : hok l = (decide ((l.length : Int) ≤ 60) && (l.all Du.ok && (heapK l l.length && riseK l' l'.length))) := by
  rw [Bool.eq_iff_iff, hok_is]
  simp only [Bool.and_eq_true, decide_eq_true_eq, List.all_eq_true, heapK_is, sorted_rise hs, hp.nodup_iff]
  constructor
  · rintro ⟨h1, h2, h3, h4⟩
    exact ⟨by omega, h2, h4, h3⟩
  · rintro ⟨h1, h2, h3, h4⟩
    exact ⟨by omega, h2, h4, h3⟩

set_option maxHeartbeats 1600000 in
theorem implOrderly (a : Option Addr) (cap : Nat) (l : List Du) (w : World) (hT : l.length ≤ 1048576) (h : Hid (DusAt w a l)) :
    Calls Try.prog 38 #[.slice a l.length cap] w fun e w' => ∃ g l', e = .returned (.slice (some ⟨g, 0, none⟩) l'.length l'.length) ∧ l'.Perm l ∧ Sorted l' ∧ DuRow w.heap.size w' (.slice (some ⟨g, 0, none⟩) l'.length l'.length) l' ∧ Below w.heap.size w w' := by
  have C := fun (_ : Nat) => implCopyDu a cap l w hT h
  have S := fun g w2 hr => implSort g l.length l w.heap.size w2 hT hr
  obtain ⟨n, hn⟩ : ∃ n, l.length = n := ⟨_, rfl⟩
  rw [hn] at C S ⊢
  have Hn : Hid (l.length = n) := hn
  have C' : Hid _ := C
  have S' : Hid _ := S
  clear C S h hn hT
  go_enter Try.func38, Try.ntmps38
  go_wp2_with fail
  refine (C'.out 0).mono ?_
  rintro e w1 ⟨g, rfl, q1, q2⟩
  have X : Hid (DuRow w.heap.size w1 (.slice (some ⟨g, 0, none⟩) n n) l ∧ Below w.heap.size w w1) := ⟨q1, q2⟩
  clear q1 q2 C'
  go_wp2_with fail
  refine (S'.out g _ X.out.1).mono ?_
  rintro e w2 ⟨rfl, l', p1, p2, p3, p4, p5⟩
  have Y : Hid (l'.Perm l ∧ Sorted l' ∧ DuRow w.heap.size w2 (.slice (some ⟨g, 0, none⟩) l'.length l'.length) l' ∧ Below w.heap.size w w2) := by
    have e : l'.length = n := by rw [p1.length_eq]; exact Hn.out
    refine ⟨p1, p2, ?_, X.out.2.trans (p4.mono (World.ownsRow.lt X.out.1 g rfl).1)⟩
    rw [e] at p3 ⊢
    exact p3
  have e : Hid (n = l'.length) := by show n = l'.length; rw [p1.length_eq]; exact Hn.out.symm
  clear p1 p2 p3 p4 p5 S' X
  go_wp2
  go_ret
  exact ⟨g, l', by rw [← e.out]; rfl, Y.out⟩

set_option maxHeartbeats 1600000 in
theorem implHeapOk (l : List Du) (a : Option Addr) (cap : Nat) (w : World) (hT : l.length ≤ 1048576) (h : Hid (DusAt w a l)) :
    Calls Try.prog 12 #[.slice a l.length cap] w fun e w' => e = .returned (.bool (hok l)) ∧ Below w.heap.size w w' := by
  have A1 := fun (w : World) (hh : DusAt w a l) => implEachDu a cap l w hT hh
  have A2 := fun (w : World) (hh : DusAt w a l) => implIsHeap a cap l w hT hh
  have A3 := fun (w : World) (hh : DusAt w a l) => implOrderly a cap l w hT hh
  have A4 := fun (a' : Option Addr) (c' : Nat) (l' : List Du) (w : World) (hp : l'.Perm l) (hh : DusAt w a' l') => implRises a' c' l' w (by rw [hp.length_eq]; exact hT) hh
  have HP : Hid (∀ l' : List Du, l'.Perm l → Sorted l' → hok l = (decide ((l.length : Int) ≤ 60) && (l.all Du.ok && (heapK l l.length && riseK l' l'.length)))) := fun l' hp hs => hok_prog hp hs
  have HN : Hid ((decide ((l.length : Int) ≤ 60) && (l.all Du.ok && heapK l l.length)) = false → hok l = false) := fun q => by
    cases e : hok l with
    | false => rfl
    | true =>
      obtain ⟨h1, h2, h3, h4⟩ := hok_is.1 e
      have q1 : decide ((l.length : Int) ≤ 60) = true := decide_eq_true (by omega)
      have q2 : l.all Du.ok = true := List.all_eq_true.2 h2
      have q3 : heapK l l.length = true := (heapK_is l).2 h4
      rw [q1, q2, q3] at q
      cases q
  have HI : Hid (∀ w', Below w.heap.size w w' → DusAt w' a l) := fun w' g => h.out.below g
  generalize hok l = R at HP HN ⊢
  generalize l.all Du.ok = b1 at A1 HP HN
  generalize heapK l l.length = b2 at A2 HP HN
  generalize l.length = n at A1 A2 A3 HP HN ⊢
  have A1' : Hid _ := A1
  have A2' : Hid _ := A2
  have A3' : Hid _ := A3
  have A4' : Hid _ := A4
  clear A1 A2 A3 A4 h hT
  by_cases hn : (n : Int) ≤ 60
  · have hd : decide ((n : Int) ≤ 60) = true := decide_eq_true hn
    go_enter Try.func12, Try.ntmps12
    go_wp2_with fail
    refine (A1'.out _ (HI.out _ (Below.refl _ _))).mono ?_
    rintro e w1 ⟨rfl, q1⟩
    have B1 : Hid (Below w.heap.size w w1) := q1
    clear q1
    cases b1
    · have e := HN.out (by rw [hd]; rfl)
      have E : Hid _ := e
      clear e
      go_wp2
      go_ret
      exact ⟨ret_bool E.out.symm, B1.out⟩
    go_wp2_with fail
    refine (A2'.out _ (HI.out _ B1.out)).mono ?_
    rintro e w2 ⟨rfl, q2⟩
    have B2 : Hid (Below w.heap.size w w2) := B1.out.trans (q2.mono B1.out.size)
    clear q2
    cases b2
    · have e := HN.out (by rw [hd]; rfl)
      have E : Hid _ := e
      clear e
      go_wp2
      go_ret
      exact ⟨ret_bool E.out.symm, B2.out⟩
    go_wp2_with fail
    refine (A3'.out _ (HI.out _ B2.out)).mono ?_
    rintro e w3 ⟨g, l', rfl, p1, p2, p3, p4⟩
    have B3 : Hid (Below w.heap.size w w3) := B2.out.trans (p4.mono B2.out.size)
    have C4 := fun (_ : Nat) => A4'.out (some ⟨g, 0, none⟩) l'.length l' w3 p1 p3.at
    have E := HP.out l' p1 p2
    rw [hd] at E
    generalize riseK l' l'.length = z at C4 E
    generalize l'.length = m at C4 ⊢
    have C4' : Hid _ := C4
    have E' : Hid _ := E
    clear p1 p2 p3 p4 C4 E
    go_wp2_with fail
    refine (C4'.out 0).mono ?_
    rintro e w4 ⟨rfl, q4⟩
    have B4 : Hid (Below w.heap.size w w4) := B3.out.trans (q4.mono B3.out.size)
    clear q4
    go_wp2
    go_ret
    exact ⟨ret_bool (by rw [E'.out]; cases z <;> rfl), B4.out⟩
  · have hd : decide ((n : Int) ≤ 60) = false := decide_eq_false hn
    have e := HN.out (by rw [hd]; rfl)
    subst e
    go_enter Try.func12, Try.ntmps12
    go_wp2
    go_ret
    exact ⟨rfl, Below.refl _ _⟩
theorem implHeapOkX (l : List Du) (a : Option Addr) (cap : Nat) (w : World) (hT : l.length ≤ 1048576) (_ : l.length ≤ cap) (_ : a = none → cap = 0) (h : Hid (DusAt w a l)) :
    Calls Try.prog 12 #[.slice a l.length cap] w fun e w' => e = .returned (.bool (hok l)) ∧ Below w.heap.size w w' := implHeapOk l a cap w hT h
end Go.Proofs.Ytgimalimfmoilaa
