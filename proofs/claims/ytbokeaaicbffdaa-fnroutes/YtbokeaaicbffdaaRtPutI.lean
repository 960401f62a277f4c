/-
  The walk of the program's Put. By the verifier.
-/
import Derived.Test.YtbokeaaicbffdaaRtTake
import Derived.Test.YtbokeaaicbffdaaRtPutT
import Derived.Test.YtbokeaaicbffdaaRtInsert
namespace Go.Proofs.Ytbokeaaicbffdaa
open Go.RowKit

theorem there_lt {l : List Rt} {r : Rt} (e : thereB l r = true) : insN l r < l.length := by
  unfold thereB at e
  rw [Bool.and_eq_true, decide_eq_true_iff] at e
  exact e.1
theorem puts_there {l : List Rt} {r : Rt} (hok : rtsOk l = true) (hr : r.ok = true) (ht : thereB l r = true) (hs : l.Pairwise fun a b => a.lt b = true) : putsB l r = true ∧ putsL l r = l.set (insN l r) r := by
  have h := there_at (r := r) hs
  have hx := h.1.1 ht
  have hb : putsB l r = true := by unfold putsB; rw [hok, hr]; simp [hx]
  refine ⟨hb, ?_⟩
  unfold putsL putL
  rw [if_pos hok, if_pos hb, if_pos hx, h.2 hx]
theorem puts_full {l : List Rt} {r : Rt} (hok : rtsOk l = true) (ht : thereB l r = false) (hs : l.Pairwise fun a b => a.lt b = true) (h64 : l.length = 64) : putsB l r = false ∧ putsL l r = l := by
  have h := there_at (r := r) hs
  have hx : ¬ atN l r.net r.bits < l.length := fun e => by rw [h.1.2 e] at ht; cases ht
  have hb : putsB l r = false := by unfold putsB; simp [h64]; intro _ _; omega
  refine ⟨hb, ?_⟩
  unfold putsL
  rw [if_pos hok, if_neg (by rw [hb]; simp)]
theorem puts_new {l : List Rt} {r : Rt} (hok : rtsOk l = true) (hr : r.ok = true) (ht : thereB l r = false) (hs : l.Pairwise fun a b => a.lt b = true) (h64 : ¬ l.length = 64) : putsB l r = true ∧ putsL l r = l.take (insN l r) ++ [r] ++ l.drop (insN l r) := by
  have h := there_at (r := r) hs
  have hx : ¬ atN l r.net r.bits < l.length := fun e => by rw [h.1.2 e] at ht; cases ht
  have hb : putsB l r = true := by unfold putsB; rw [hok, hr]; simp [h64]
  refine ⟨hb, ?_⟩
  unfold putsL putL
  rw [if_pos hok, if_pos hb, if_neg hx]
theorem puts_wrong {l : List Rt} {r : Rt} (hok : rtsOk l = true) (hr : r.ok = false) : putsB l r = false ∧ putsL l r = l := by
  have hb : putsB l r = false := by unfold putsB; rw [hok, hr]; rfl
  refine ⟨hb, ?_⟩
  unfold putsL
  rw [if_pos hok, if_neg (by rw [hb]; simp)]

set_option maxHeartbeats 3200000 in
theorem implPut (a : Option Addr) (cap : Nat) (l : List Rt) (r : Rt) (w : World) (hT : l.length ≤ 1048576) (hn : a = none → cap = 0) (h : Hid (RtsAt w a l)) :
    Calls Try.prog 6 #[.slice a l.length cap, r.val] w fun e w' => (∃ v, e = .returned (.tuple #[v, .bool (putsB l r)]) ∧ RRow w.heap.size w' v (putsL l r)) ∧ Below w.heap.size w w' := by
  have C := fun w h => implOk a cap l w hT h
  obtain ⟨W0, hW0⟩ : ∃ W, W = w.alloc (.cells #[.int .i64 r.net, .int .i64 r.bits, .int .i64 r.hop] 26) := ⟨_, rfl⟩
  have HW : Hid (RtsAt W0 a l ∧ Below w.heap.size w W0 ∧ Boxed W0 w.heap.size #[.int .i64 r.net, .int .i64 r.bits, .int .i64 r.hop] 26 ∧ w.heap.size < W0.heap.size) := by
    rw [hW0]
    exact ⟨h.out.alloc _, (Below.refl _ _).alloc (Nat.le_refl _) _, Boxed.new _ _ _, by simp⟩
  have HW0 : Hid (W0 = _) := hW0
  clear hW0
  cases hok : rtsOk l
  · have hv : putsL l r = [] := by unfold putsL; rw [hok]; rfl
    have hv2 : putsB l r = false := by unfold putsB; rw [hok]; rfl
    rw [hv, hv2]
    rw [hok] at C
    have C' : Hid _ := C
    clear C hok hv hv2
    generalize l.length = len at C' ⊢
    unfold Rt.val
    go_enter Try.func6, Try.ntmps6
    go_wp2_with fail
    rw [← HW0.out]
    refine (C'.out _ HW.out.1).mono ?_
    rintro e w1 ⟨rfl, b1⟩
    have B : Hid (Below w.heap.size w w1) := HW.out.2.1.trans (b1.mono HW.out.2.1.size)
    clear b1
    have H : Hid (RRow w.heap.size (w1.alloc (.cells #[] 26)) (.slice (some ⟨w1.heap.size, 0, none⟩) 0 0) []) := row_built w1 _ B.out.size
    go_wp2
    go_ret2
    exact ⟨⟨_, rfl, H.out⟩, B.out.alloc B.out.size _⟩
  rw [hok] at C
  have hs : Hid (l.Pairwise fun a b => a.lt b = true) := (trieOk_of hok).sorted
  have h64 : l.length ≤ 64 := by
    have hk := hok
    unfold rtsOk at hk
    rw [Bool.and_eq_true, decide_eq_true_iff] at hk
    exact hk.1
  have Hok : Hid (rtsOk l = true) := hok
  have D := fun w h => implCloneR a cap l w h hn hT
  have E := fun a cap w h => implSearch a cap l r w h64 hs h
  have R := fun w => implRoute r w
  have X := fun base a cap vb w hb hvb h hv => implInsert base a cap vb l (insN l r) r w hT (insN_le l r) hb hvb h hv
  have hKl : thereB l r = true → insN l r < l.length := there_lt
  have hKe : insN l r ≤ l.length := insN_le l r
  have P1 := @puts_there l r hok
  have P2 := @puts_full l r hok
  have P3 := @puts_new l r hok
  have P4 := @puts_wrong l r hok
  clear hok
  obtain ⟨K, hK⟩ : ∃ K, insN l r = K := ⟨_, rfl⟩
  rw [hK] at hKl hKe P1 P3 E X
  generalize thereB l r = tb at E hKl P1 P2 P3
  generalize r.ok = rok at R P1 P2 P3 P4
  clear hK
  have HR : Hid (∀ (base : Nat) (W : World) (v : Value), RRow base W v l → ∃ a' c', v = .slice a' l.length c' ∧ RtsAt W a' l) := by
    show ∀ (base : Nat) (W : World) (v : Value), RRow base W v l → _
    intro base W v hr
    obtain ⟨a', c', rfl⟩ := hr.shape
    exact ⟨a', c', rfl, hr.at⟩
  obtain ⟨len, hlen⟩ : ∃ n, l.length = n := ⟨_, rfl⟩
  have Hlen : Hid (l.length = len) := hlen
  have C' : Hid _ := C
  have D' : Hid _ := D
  have E' : Hid _ := E
  have X' : Hid _ := X
  have P1' : Hid _ := P1
  have P2' : Hid _ := P2
  have P3' : Hid _ := P3
  have P4' : Hid _ := P4
  simp only [hlen] at C' D' E' HR hKl hKe h64 X' P2' P3' ⊢
  clear C D E X P1 P2 P3 P4 hlen
  unfold Rt.val at E' R ⊢
  go_enter Try.func6, Try.ntmps6
  go_wp2_with fail
  rw [← HW0.out]
  refine (C'.out _ HW.out.1).mono ?_
  rintro e w1 ⟨rfl, b1⟩
  have H1 : Hid (RtsAt w1 a l ∧ Below w.heap.size w w1 ∧ Boxed w1 w.heap.size #[.int .i64 r.net, .int .i64 r.bits, .int .i64 r.hop] 26 ∧ w.heap.size + 1 ≤ w1.heap.size) := ⟨HW.out.1.below b1, HW.out.2.1.trans (b1.mono HW.out.2.1.size), HW.out.2.2.1.below HW.out.2.2.2 b1, by have := b1.size; have := HW.out.2.2.2; omega⟩
  clear b1
  go_wp2_with fail
  refine (D'.out _ H1.out.1).mono ?_
  rintro e w2 ⟨v2, rfl, r2, b2⟩
  obtain ⟨a2, c2, rfl, rt2⟩ := HR.out _ _ _ r2
  have H2 : Hid (RRow (w.heap.size + 1) w2 (.slice a2 len c2) l ∧ Below w.heap.size w w2 ∧ RtsAt w2 a2 l ∧ Boxed w2 w.heap.size #[.int .i64 r.net, .int .i64 r.bits, .int .i64 r.hop] 26 ∧ w.heap.size + 1 ≤ w2.heap.size) := ⟨r2.mono H1.out.2.2.2, H1.out.2.1.trans (b2.mono H1.out.2.1.size), rt2, H1.out.2.2.1.below (by have := H1.out.2.2.2; omega) b2, by have := b2.size; have := H1.out.2.2.2; omega⟩
  clear r2 b2 rt2 H1
  have c0 : w2.cell? ⟨w.heap.size, 0, none⟩ = some (.int .i64 r.net) := H2.out.2.2.2.1.cell 0 rfl
  have c1 : w2.cell? ⟨w.heap.size, 1, none⟩ = some (.int .i64 r.bits) := H2.out.2.2.2.1.cell 1 rfl
  have c3 : w2.cell? ⟨w.heap.size, 2, none⟩ = some (.int .i64 r.hop) := H2.out.2.2.2.1.cell 2 rfl
  go_wp2_with fail
  refine (E'.out _ _ _ H2.out.2.2.1).mono ?_
  rintro e w3 ⟨rfl, b3⟩
  have H3 : Hid (RRow (w.heap.size + 1) w3 (.slice a2 len c2) l ∧ Below w.heap.size w w3 ∧ Boxed w3 w.heap.size #[.int .i64 r.net, .int .i64 r.bits, .int .i64 r.hop] 26 ∧ w.heap.size + 1 ≤ w3.heap.size) := ⟨H2.out.1.below (fun k hk => (H2.out.1.lt k hk).2) b3, H2.out.2.1.trans (b3.mono H2.out.2.1.size), H2.out.2.2.2.1.below (by have := H2.out.2.2.2.2; omega) b3, by have := b3.size; have := H2.out.2.2.2.2; omega⟩
  clear b3 H2 c0 c1 c3
  have c0 : w3.cell? ⟨w.heap.size, 0, none⟩ = some (.int .i64 r.net) := H3.out.2.2.1.cell 0 rfl
  have c1 : w3.cell? ⟨w.heap.size, 1, none⟩ = some (.int .i64 r.bits) := H3.out.2.2.1.cell 1 rfl
  have c3 : w3.cell? ⟨w.heap.size, 2, none⟩ = some (.int .i64 r.hop) := H3.out.2.2.1.cell 2 rfl
  go_wp2_with fail
  refine (R _).mono ?_
  rintro e w4 ⟨rfl, b4⟩
  have H4 : Hid (RRow (w.heap.size + 1) w4 (.slice a2 len c2) l ∧ Below w.heap.size w w4 ∧ Boxed w4 w.heap.size #[.int .i64 r.net, .int .i64 r.bits, .int .i64 r.hop] 26 ∧ w.heap.size + 1 ≤ w4.heap.size) := ⟨H3.out.1.below (fun k hk => (H3.out.1.lt k hk).2) b4, H3.out.2.1.trans (b4.mono H3.out.2.1.size), H3.out.2.2.1.below (by have := H3.out.2.2.2; omega) b4, by have := b4.size; have := H3.out.2.2.2; omega⟩
  clear b4 H3 c0 c1 c3
  have c0 : w4.cell? ⟨w.heap.size, 0, none⟩ = some (.int .i64 r.net) := H4.out.2.2.1.cell 0 rfl
  have c1 : w4.cell? ⟨w.heap.size, 1, none⟩ = some (.int .i64 r.bits) := H4.out.2.2.1.cell 1 rfl
  have c3 : w4.cell? ⟨w.heap.size, 2, none⟩ = some (.int .i64 r.hop) := H4.out.2.2.1.cell 2 rfl
  cases rok
  · have q : Hid _ := P4'.out rfl
    go_wp2
    go_ret2
    exact ⟨⟨_, (by rw [q.out.1]; first | done | rfl), by rw [q.out.2]; exact H4.out.1.mono (Nat.le_succ _)⟩, H4.out.2.1⟩
  cases tb
  · by_cases hf : len = 64
    · have q : Hid _ := P2'.out rfl hs.out hf
      have hf' : ((len : Int) == 64) = true := by simp; omega
      clear hf
      go_wp2
      go_ret2
      exact ⟨⟨_, (by rw [q.out.1]; first | done | rfl), by rw [q.out.2]; exact H4.out.1.mono (Nat.le_succ _)⟩, H4.out.2.1⟩
    · have q : Hid _ := P3'.out rfl rfl hs.out hf
      have hf' : ((len : Int) == 64) = false := by simp; omega
      clear hf
      go_wp2_with fail
      have H5 : Hid (RRow (w.heap.size + 1) (w4.alloc (.cells #[.int .i64 r.net, .int .i64 r.bits, .int .i64 r.hop] 26)) (.slice a2 len c2) l ∧ Below w.heap.size w (w4.alloc (.cells #[.int .i64 r.net, .int .i64 r.bits, .int .i64 r.hop] 26)) ∧ w.heap.size + 1 ≤ (w4.alloc (.cells #[.int .i64 r.net, .int .i64 r.bits, .int .i64 r.hop] 26)).heap.size) := ⟨H4.out.1.alloc _, H4.out.2.1.alloc H4.out.2.1.size _, by have := H4.out.2.2.2; simp; omega⟩
      have hne : ∀ g, a2 = some ⟨g, 0, none⟩ → w4.heap.size ≠ g := fun g e => by
        subst e
        have := (H4.out.1.lt g rfl).2
        omega
      refine (X'.out (w.heap.size + 1) a2 c2 w4.heap.size _ H5.out.2.2 hne H5.out.1 (Boxed.new w4 _ _)).mono ?_
      rintro e w6 ⟨⟨v6, rfl, r6⟩, b6⟩
      have H6 : Hid (RRow (w.heap.size + 1) w6 v6 (l.take K ++ [r] ++ l.drop K) ∧ Below w.heap.size w w6) := ⟨r6, H5.out.2.1.trans (b6.mono (Nat.le_succ _))⟩
      obtain ⟨a6, c6, rfl⟩ := r6.shape
      clear r6 b6 H5 H4 hne c0 c1 c3
      generalize (l.take K ++ [r] ++ l.drop K).length = n6 at H6 ⊢
      go_wp2
      go_ret2
      exact ⟨⟨_, (by rw [q.out.1]; first | done | rfl), by rw [q.out.2]; exact H6.out.1.mono (Nat.le_succ _)⟩, H6.out.2⟩
  · have hK : K < len := hKl rfl
    have q : Hid _ := P1'.out rfl rfl hs.out
    obtain ⟨g, rfl⟩ : ∃ g, a2 = some ⟨g, 0, none⟩ := by
      rcases H4.out.1.2 with ⟨e, _⟩ | ⟨g, cap', cur, e, _⟩
      · have := (Value.slice.inj e).2.1; omega
      · exact ⟨g, (Value.slice.inj e).1⟩
    have hrow : w4.ownsRow (w.heap.size + 1) 26 3 (.slice (some ⟨g, 0, none⟩) len c2) len (rcells l) := by
      have := H4.out.1
      unfold RRow at this
      rwa [Hlen.out] at this
    have ex : ∀ j, j < len * 3 → ∃ v, w4.cell? ⟨g, j, none⟩ = some v := by
      intro j hj
      rw [hrow.cellAt j hj]
      exact ⟨_, List.getElem?_eq_getElem (by rw [rcells_length, Hlen.out]; omega)⟩
    obtain ⟨y0, hy0⟩ := ex (K * 3) (by omega)
    obtain ⟨y1, hy1⟩ := ex (K * 3 + 1) (by omega)
    obtain ⟨y2, hy2⟩ := ex (K * 3 + 2) (by omega)
    have z0 := hrow.frozenAt (K * 3)
    have z1 := hrow.frozenAt (K * 3 + 1)
    have z2 := hrow.frozenAt (K * 3 + 2)
    have hbg : w.heap.size ≤ g := by have := (H4.out.1.lt g rfl).1; omega
    have H5 : Hid (_ ∧ Below w.heap.size w (((w4.setCell ⟨g, K * 3, none⟩ (.int .i64 r.net)).setCell ⟨g, K * 3 + 1, none⟩ (.int .i64 r.bits)).setCell ⟨g, K * 3 + 2, none⟩ (.int .i64 r.hop))) := ⟨RRow.put hrow K r, ((H4.out.2.1.setCell (p := ⟨g, K * 3, none⟩) hbg _).setCell (p := ⟨g, K * 3 + 1, none⟩) hbg _).setCell (p := ⟨g, K * 3 + 2, none⟩) hbg _⟩
    have hKi : (K : Int) < (len : Int) := by omega
    clear hrow ex H4 hbg
    go_wp2
    go_ret2
    refine ⟨⟨_, (by rw [q.out.1]; first | done | rfl), ?_⟩, H5.out.2⟩
    rw [q.out.2]
    refine RRow.mono ?_ (Nat.le_succ _)
    unfold RRow
    rw [List.length_set, Hlen.out]
    exact H5.out.1
end Go.Proofs.Ytbokeaaicbffdaa
