import Derived.Test.YtkocbfikcjgigaaDuFn
import Derived.Test.YtkocbfikcjgigaaM9HpMeth
import Derived.Test.YtkocbfikcjgigaaM8DuCmp
import Derived.Test.YtkocbfikcjgigaaQuiet
import Derived.BigQuiet
import Derived.WalkKit
import Derived.WalkSpells
import Derived.WalkLawsBesides
import Derived.RegionTactic
import Derived.Deep.RegionLaw
import Derived.Deep.CutRange
import Derived.Test.YtkocbfikcjgigaaM13DuSortI
/-
  The walks of the program's dues that only read: which are right, which is ahead in a heap, which lists are heaps, which rise, which is there. By the verifier.
-/
namespace Go.Proofs.Ytkocbfikcjgigaa
open Go.RowKit Go.Shelf

set_option maxHeartbeats 1600000 in
set_option maxRecDepth 100000 in
theorem implIsHeap (a : Option Addr) (cap : Nat) (l : List Du) (w : World) (hT : l.length ≤ 1048576) (h : Hid (DusAt w a l)) :
    Calls Try.prog 27 #[.slice a l.length cap] w fun e w' => e = .returned (.bool (heapK l l.length)) ∧ Below w.heap.size w w' := by
  have L := fun (i j : Nat) (w : World) (hi : i < l.length) (hj : j < l.length) (hh : DusAt w a l) => implLess a cap l i j w hi hj hh
  have K0 : Hid (heapK l 1 = true) := by show heapK l 1 = true; unfold heapK; simp
  have Z : Hid (l.length = 0 → heapK l 0 = true) := fun _ => rfl
  have Hit : Hid (∀ n, 0 < n → n < l.length → decide ((duAt l n).lt (duAt l ((n - 1) / 2))) = true → heapK l l.length = false) := fun n n0 hn q => heapK_hit hn (by simp only [Bool.and_eq_true, decide_eq_true_eq]; exact ⟨n0, of_decide_eq_true q⟩)
  have Suc : Hid (∀ n, 0 < n → heapK l n = true → decide ((duAt l n).lt (duAt l ((n - 1) / 2))) = false → heapK l (n + 1) = true) := fun n n0 h1 h2 => by rw [heapK_succ, h1, h2]; simp
  obtain ⟨len, hlen⟩ : ∃ n, l.length = n := ⟨_, rfl⟩
  rw [hlen] at hT L Z Hit ⊢
  clear hlen
  have L' : Hid _ := L
  clear L
  go_enter Try.func27, Try.ntmps27
  go_wp2
  go_loopw [3] (fun i wr => ∃ k : Nat, 0 < k ∧ (k ≤ len ∨ k = 1) ∧ i = .int .i64 k ∧ Hid (heapK l k = true ∧ Below w.heap.size w wr)) (fun i _ => len - (intOf i).toNat)
  case atStart => exact ⟨1, by omega, .inr rfl, rfl, K0.out, Below.refl _ _⟩
  case round =>
    obtain ⟨k, hk0, hk, rfl, HK⟩ := hrel
    by_cases hlt : k < len
    · have hp : (k - 1) / 2 < len := by omega
      have C := L'.out k ((k - 1) / 2) wr hlt hp (h.out.below HK.out.2)
      have hw1 : ((k : Int) - 1).tdiv 2 = (((k - 1) / 2 : Nat) : Int) := by
        rw [show ((k : Int) - 1) = ((k - 1 : Nat) : Int) by omega]
        rfl
      have hlt' : (k : Int) < (len : Int) := by omega
      have S1 := Suc.out k hk0 HK.out.1
      have S2 := Hit.out k hk0 hlt
      have hk1 : (1 : Int) ≤ (k : Int) := by omega
      generalize decide ((duAt l k).lt (duAt l ((k - 1) / 2))) = z at C S1 S2
      generalize (k - 1) / 2 = m at C hw1 hp
      have S1' : Hid _ := S1
      have S2' : Hid _ := S2
      clear S1 S2
      go_wp2_with fail
      refine C.mono ?_
      rintro e w1 ⟨rfl, b1⟩
      have B : Hid (Below w.heap.size w w1) := HK.out.2.trans (b1.mono HK.out.2.size)
      clear b1 C
      cases z
      · go_wp2
        go_roundw
        case rel => exact ⟨k + 1, by omega, .inl (by omega), by go_num, S1'.out (by first | exact trivial | exact rfl), B.out⟩
        case measure => simp [intOf]; omega
      · go_wp2
        go_ret
        exact ⟨ret_bool (by rw [S2'.out (by first | exact trivial | exact rfl)]), B.out⟩
    · have e : heapK l len = true := by
        rcases hk with hk | rfl
        · obtain rfl : k = len := by omega
          exact HK.out.1
        · by_cases h0 : len = 0
          · rw [h0]; exact Z.out h0
          · obtain rfl : len = 1 := by omega
            exact HK.out.1
      have E : Hid _ := e
      clear e
      go_wp2
      go_ret
      exact ⟨ret_bool E.out.symm, HK.out.2⟩

/-- Does each of the first n come behind the one ahead of it? -/
def riseK (l : List Du) (n : Nat) : Bool := (List.range n).all fun j => !(decide (0 < j) && !decide ((duAt l (j - 1)).lt (duAt l j)))
theorem riseK_succ (l : List Du) (n : Nat) : riseK l (n + 1) = (riseK l n && !(decide (0 < n) && !decide ((duAt l (n - 1)).lt (duAt l n)))) := by
  unfold riseK
  rw [List.range_succ, List.all_append]
  simp
theorem riseK_hit {l : List Du} {n m : Nat} (h : n < m) (n0 : 0 < n) (g : decide ((duAt l (n - 1)).lt (duAt l n)) = false) : riseK l m = false := by
  unfold riseK
  rw [List.all_eq_false]
  refine ⟨n, List.mem_range.2 h, ?_⟩
  rw [g, decide_eq_true n0]
  exact Bool.false_ne_true
theorem riseK_is (l : List Du) : riseK l l.length = true ↔ ∀ k, 0 < k → k < l.length → (duAt l (k - 1)).lt (duAt l k) := by
  unfold riseK
  rw [List.all_eq_true]
  constructor
  · intro h j j0 hj
    have := h j (List.mem_range.2 hj)
    rw [decide_eq_true j0, Bool.true_and, Bool.not_not] at this
    exact of_decide_eq_true this
  · intro h j hj
    have hj := List.mem_range.1 hj
    by_cases j0 : 0 < j
    · rw [decide_eq_true (h j j0 hj)]; simp
    · simp [j0]
set_option maxHeartbeats 1600000 in
set_option maxRecDepth 100000 in
theorem implRises (a : Option Addr) (cap : Nat) (l : List Du) (w : World) (hT : l.length ≤ 1048576) (h : Hid (DusAt w a l)) :
    Calls Try.prog 29 #[.slice a l.length cap] w fun e w' => e = .returned (.bool (riseK l l.length)) ∧ Below w.heap.size w w' := by
  have K0 : Hid (riseK l 1 = true) := by show riseK l 1 = true; unfold riseK; simp
  have Z : Hid (l.length = 0 → riseK l 0 = true) := fun _ => rfl
  have Hit : Hid (∀ n, 0 < n → n < l.length → decide (0 ≤ duOrdV (duAt l (n - 1)) (duAt l n)) = true → riseK l l.length = false) := fun n n0 hn q => riseK_hit hn n0 (decide_eq_false fun e => by have := of_decide_eq_true q; have := (duOrd_lt _ _).2 e; omega)
  have Suc : Hid (∀ n, 0 < n → riseK l n = true → decide (0 ≤ duOrdV (duAt l (n - 1)) (duAt l n)) = false → riseK l (n + 1) = true) := fun n n0 h1 h2 => by
    rw [riseK_succ, h1, decide_eq_true ((duOrd_lt (duAt l (n - 1)) (duAt l n)).1 (by have := of_decide_eq_false h2; omega))]
    simp
  obtain ⟨len, hlen⟩ : ∃ n, l.length = n := ⟨_, rfl⟩
  rw [hlen] at hT Z Hit ⊢
  have Hlen : Hid (l.length = len) := hlen
  clear hlen
  go_enter Try.func29, Try.ntmps29
  go_wp2
  go_loopw [3] (fun i wr => ∃ k : Nat, 0 < k ∧ (k ≤ len ∨ k = 1) ∧ i = .int .i64 k ∧ Hid (riseK l k = true ∧ Below w.heap.size w wr)) (fun i _ => len - (intOf i).toNat)
  case atStart => exact ⟨1, by omega, .inr rfl, rfl, K0.out, Below.refl _ _⟩
  case round =>
    obtain ⟨k, hk0, hk, rfl, HK⟩ := hrel
    by_cases hlt : k < len
    · obtain ⟨m, rfl⟩ : ∃ m, k = m + 1 := ⟨k - 1, by omega⟩
      have R : Hid (DusAt wr a l) := h.out.below HK.out.2
      obtain ⟨b1, o1, ha1, hb1, -⟩ := R.out m (by rw [Hlen.out]; omega)
      subst ha1
      have g0 := fun p : BelW wr.heap.size wr => ((R.out.below p.h).cells (k := m) (by rw [Hlen.out]; omega)).1
      have g1 := fun p : BelW wr.heap.size wr => ((R.out.below p.h).cells (k := m) (by rw [Hlen.out]; omega)).2
      have f0 := fun p : BelW wr.heap.size wr => ((R.out.below p.h).cells (k := m + 1) (by rw [Hlen.out]; omega)).1
      have f1 := fun p : BelW wr.heap.size wr => ((R.out.below p.h).cells (k := m + 1) (by rw [Hlen.out]; omega)).2
      have O := fun w => implOrder (duAt l m) (duAt l (m + 1)) w
      have S1 := Suc.out (m + 1) hk0 HK.out.1
      have S2 := Hit.out (m + 1) hk0 hlt
      rw [Nat.add_sub_cancel] at S1 S2
      have hm0 := orderMeth (duAt l m).val
      generalize duOrdV (duAt l m) (duAt l (m + 1)) = z at O S1 S2
      unfold Du.val at O hm0
      generalize duAt l m = x at g0 g1 O hm0
      generalize duAt l (m + 1) = y at f0 f1 O
      have hlt' : (m : Int) + 1 < (len : Int) := by omega
      have hlt2 : (m : Int) < (len : Int) := by omega
      have St : Hid (∀ w2, Below wr.heap.size wr w2 → Below w.heap.size w w2) := fun w2 q => HK.out.2.trans (q.mono HK.out.2.size)
      have S1' : Hid _ := S1
      have S2' : Hid _ := S2
      clear S1 S2 R HK
      haveI : Nonempty (BelW wr.heap.size wr) := ⟨⟨wr, Below.refl _ _⟩⟩
      by_cases hz : 0 ≤ z
      · have hd : decide (0 ≤ z) = true := decide_eq_true hz
        have e : Hid _ := S2'.out hd
        go_upto_region 4 with fail
        refine region_below wr.heap.size (by kernel_rfl) (by kernel_rfl) ?_
        repeat (go_big_quiet_step ((go_at_call 50; refine quiet_below (Nat.le_refl _) (O _))))
        refine wpQuiet_nil ?_
        intro wq hx
        have hq : Hid (Below w.heap.size w wq) := St.out _ (BelW.out hx)
        clear hx f0 f1 g0 g1 O
        go_wp2
        go_ret
        exact ⟨ret_bool (by rw [e.out]), hq.out⟩
      · have hd : decide (0 ≤ z) = false := decide_eq_false hz
        have e : Hid (riseK l (m + 1 + 1) = true) := S1'.out hd
        go_upto_region 4 with fail
        refine region_below wr.heap.size (by kernel_rfl) (by kernel_rfl) ?_
        repeat (go_big_quiet_step ((go_at_call 50; refine quiet_below (Nat.le_refl _) (O _))))
        refine wpQuiet_nil ?_
        intro wq hx
        have hq : Hid (Below w.heap.size w wq) := St.out _ (BelW.out hx)
        clear hx f0 f1 g0 g1 O
        go_wp2
        go_roundw
        case rel => exact ⟨m + 1 + 1, by omega, .inl (by omega), by go_num, e.out, hq.out⟩
        case measure => simp [intOf]; omega
    · have e : riseK l len = true := by
        rcases hk with hk | rfl
        · obtain rfl : k = len := by omega
          exact HK.out.1
        · by_cases h0 : len = 0
          · rw [h0]; exact Z.out h0
          · obtain rfl : len = 1 := by omega
            exact HK.out.1
      have E : Hid _ := e
      clear e
      go_wp2
      go_ret
      exact ⟨ret_bool E.out.symm, HK.out.2⟩
end Go.Proofs.Ytkocbfikcjgigaa

/-
  The walks of the program's orderlyOf and HeapOk. By the verifier.
-/
namespace Go.Proofs.Ytkocbfikcjgigaa
open Go.RowKit Go.Shelf

theorem sorted_rise {l : List Du} (h : Sorted l) : riseK l l.length = true ↔ l.Nodup := by
  rw [riseK_is]
  constructor
  · intro q
    exact (rise_adj q).nodup
  · intro q k k0 hk
    have h1 := h (k - 1) k (by omega) hk
    apply Classical.byContradiction
    intro n
    have e := Du.eq_of n h1
    rw [duAt_lt hk, duAt_lt (by omega : k - 1 < l.length)] at e
    have := (List.getElem_inj q).1 e
    omega
theorem hok_prog {l l' : List Du} (hp : l'.Perm l) (hs : Sorted l') : hok l = (decide ((l.length : Int) ≤ 60) && (l.all Du.ok && (heapK l l.length && riseK l' l'.length))) := by
  rw [Bool.eq_iff_iff, hok_is]
  simp only [Bool.and_eq_true, decide_eq_true_eq, List.all_eq_true, heapK_is, sorted_rise hs, hp.nodup_iff]
  constructor
  · rintro ⟨h1, h2, h3, h4⟩
    exact ⟨by omega, h2, h4, h3⟩
  · rintro ⟨h1, h2, h3, h4⟩
    exact ⟨by omega, h2, h4, h3⟩

set_option maxHeartbeats 1600000 in
theorem implOrderly (a : Option Addr) (cap : Nat) (l : List Du) (w : World) (hT : l.length ≤ 1048576) (h : Hid (DusAt w a l)) :
    Calls Try.prog 28 #[.slice a l.length cap] w fun e w' => ∃ g l', e = .returned (.slice (some ⟨g, 0, none⟩) l'.length l'.length) ∧ l'.Perm l ∧ Sorted l' ∧ DuRow w.heap.size w' (.slice (some ⟨g, 0, none⟩) l'.length l'.length) l' ∧ Below w.heap.size w w' := by
  have C := fun (_ : Nat) => implCopyDu a cap l w hT h
  have S := fun g w2 hr => implSort g l.length l w.heap.size w2 hT hr
  obtain ⟨n, hn⟩ : ∃ n, l.length = n := ⟨_, rfl⟩
  rw [hn] at C S ⊢
  have Hn : Hid (l.length = n) := hn
  have C' : Hid _ := C
  have S' : Hid _ := S
  clear C S h hn hT
  go_enter Try.func28, Try.ntmps28
  go_wp2_with fail
  refine (C'.out 0).mono ?_
  rintro e w1 ⟨g, rfl, q1, q2⟩
  have X : Hid (DuRow w.heap.size w1 (.slice (some ⟨g, 0, none⟩) n n) l ∧ Below w.heap.size w w1) := ⟨q1, q2⟩
  clear q1 q2 C'
  go_wp2_with fail
  refine (S'.out g _ X.out.1).mono ?_
  rintro e w2 ⟨rfl, l', p1, p2, p3, p4, p5⟩
  have Y : Hid (l'.Perm l ∧ Sorted l' ∧ DuRow w.heap.size w2 (.slice (some ⟨g, 0, none⟩) l'.length l'.length) l' ∧ Below w.heap.size w w2) := by
    have e : l'.length = n := by rw [p1.length_eq]; exact Hn.out
    refine ⟨p1, p2, ?_, X.out.2.trans (p4.mono (World.ownsRow.lt X.out.1 g rfl).1)⟩
    rw [e] at p3 ⊢
    exact p3
  have e : Hid (n = l'.length) := by show n = l'.length; rw [p1.length_eq]; exact Hn.out.symm
  clear p1 p2 p3 p4 p5 S' X
  go_wp2
  go_ret
  exact ⟨g, l', by rw [← e.out]; rfl, Y.out⟩

set_option maxHeartbeats 1600000 in
theorem implHeapOk (l : List Du) (a : Option Addr) (cap : Nat) (w : World) (hT : l.length ≤ 1048576) (h : Hid (DusAt w a l)) :
    Calls Try.prog 11 #[.slice a l.length cap] w fun e w' => e = .returned (.bool (hok l)) ∧ Below w.heap.size w w' := by
  have A1 := fun (w : World) (hh : DusAt w a l) => implEachDu a cap l w hT hh
  have A2 := fun (w : World) (hh : DusAt w a l) => implIsHeap a cap l w hT hh
  have A3 := fun (w : World) (hh : DusAt w a l) => implOrderly a cap l w hT hh
  have A4 := fun (a' : Option Addr) (c' : Nat) (l' : List Du) (w : World) (hp : l'.Perm l) (hh : DusAt w a' l') => implRises a' c' l' w (by rw [hp.length_eq]; exact hT) hh
  have HP : Hid (∀ l' : List Du, l'.Perm l → Sorted l' → hok l = (decide ((l.length : Int) ≤ 60) && (l.all Du.ok && (heapK l l.length && riseK l' l'.length)))) := fun l' hp hs => hok_prog hp hs
  have HN : Hid ((decide ((l.length : Int) ≤ 60) && (l.all Du.ok && heapK l l.length)) = false → hok l = false) := fun q => by
    cases e : hok l with
    | false => rfl
    | true =>
      obtain ⟨h1, h2, h3, h4⟩ := hok_is.1 e
      have q1 : decide ((l.length : Int) ≤ 60) = true := decide_eq_true (by omega)
      have q2 : l.all Du.ok = true := List.all_eq_true.2 h2
      have q3 : heapK l l.length = true := (heapK_is l).2 h4
      rw [q1, q2, q3] at q
      cases q
  have HI : Hid (∀ w', Below w.heap.size w w' → DusAt w' a l) := fun w' g => h.out.below g
  generalize hok l = R at HP HN ⊢
  generalize l.all Du.ok = b1 at A1 HP HN
  generalize heapK l l.length = b2 at A2 HP HN
  generalize l.length = n at A1 A2 A3 HP HN ⊢
  have A1' : Hid _ := A1
  have A2' : Hid _ := A2
  have A3' : Hid _ := A3
  have A4' : Hid _ := A4
  clear A1 A2 A3 A4 h hT
  by_cases hn : (n : Int) ≤ 60
  · have hd : decide ((n : Int) ≤ 60) = true := decide_eq_true hn
    go_enter Try.func11, Try.ntmps11
    go_wp2_with fail
    refine (A1'.out _ (HI.out _ (Below.refl _ _))).mono ?_
    rintro e w1 ⟨rfl, q1⟩
    have B1 : Hid (Below w.heap.size w w1) := q1
    clear q1
    cases b1
    · have e := HN.out (by rw [hd]; rfl)
      have E : Hid _ := e
      clear e
      go_wp2
      go_ret
      exact ⟨ret_bool E.out.symm, B1.out⟩
    go_wp2_with fail
    refine (A2'.out _ (HI.out _ B1.out)).mono ?_
    rintro e w2 ⟨rfl, q2⟩
    have B2 : Hid (Below w.heap.size w w2) := B1.out.trans (q2.mono B1.out.size)
    clear q2
    cases b2
    · have e := HN.out (by rw [hd]; rfl)
      have E : Hid _ := e
      clear e
      go_wp2
      go_ret
      exact ⟨ret_bool E.out.symm, B2.out⟩
    go_wp2_with fail
    refine (A3'.out _ (HI.out _ B2.out)).mono ?_
    rintro e w3 ⟨g, l', rfl, p1, p2, p3, p4⟩
    have B3 : Hid (Below w.heap.size w w3) := B2.out.trans (p4.mono B2.out.size)
    have C4 := fun (_ : Nat) => A4'.out (some ⟨g, 0, none⟩) l'.length l' w3 p1 p3.at
    have E := HP.out l' p1 p2
    rw [hd] at E
    generalize riseK l' l'.length = z at C4 E
    generalize l'.length = m at C4 ⊢
    have C4' : Hid _ := C4
    have E' : Hid _ := E
    clear p1 p2 p3 p4 C4 E
    go_wp2_with fail
    refine (C4'.out 0).mono ?_
    rintro e w4 ⟨rfl, q4⟩
    have B4 : Hid (Below w.heap.size w w4) := B3.out.trans (q4.mono B3.out.size)
    clear q4
    go_wp2
    go_ret
    exact ⟨ret_bool (by rw [E'.out]; cases z <;> rfl), B4.out⟩
  · have hd : decide ((n : Int) ≤ 60) = false := decide_eq_false hn
    have e := HN.out (by rw [hd]; rfl)
    subst e
    go_enter Try.func11, Try.ntmps11
    go_wp2
    go_ret
    exact ⟨rfl, Below.refl _ _⟩
theorem implHeapOkX (l : List Du) (a : Option Addr) (cap : Nat) (w : World) (hT : l.length ≤ 1048576) (_ : l.length ≤ cap) (_ : a = none → cap = 0) (h : Hid (DusAt w a l)) :
    Calls Try.prog 11 #[.slice a l.length cap] w fun e w' => e = .returned (.bool (hok l)) ∧ Below w.heap.size w w' := implHeapOk l a cap w hT h
end Go.Proofs.Ytkocbfikcjgigaa
