/-
  The walk of the program's Take. By the verifier.
-/
import Derived.Test.YtbokeaaicbffdaaRtSearch
import Derived.Test.YtbokeaaicbffdaaRtDel
namespace Go.Proofs.Ytbokeaaicbffdaa
open Go.RowKit

theorem split_at (l : List Rt) (k : Nat) (hk : k < l.length) : l = l.take k ++ rtAt l k :: l.drop (k + 1) := by
  rw [rtAt_lt hk, ← List.drop_eq_getElem_cons hk, List.take_append_drop]

set_option maxHeartbeats 1600000 in
theorem implTake (a : Option Addr) (cap : Nat) (l : List Rt) (net bits : Int) (w : World) (hT : l.length ≤ 1048576) (hn : a = none → cap = 0) (h : Hid (RtsAt w a l)) :
    Calls Try.prog 8 #[.slice a l.length cap, .int .i64 net, .int .i64 bits] w fun e w' => (∃ v, e = .returned (.tuple #[v, .bool (takeB l net bits)]) ∧ RRow w.heap.size w' v (takeL l net bits)) ∧ Below w.heap.size w w' := by
  have C := fun w h => implOk a cap l w hT h
  cases hok : rtsOk l
  · have hv : takeL l net bits = [] := by unfold takeL; rw [hok]; rfl
    have hv2 : takeB l net bits = false := by unfold takeB; rw [hok]; rfl
    rw [hv, hv2]
    rw [hok] at C
    have C' : Hid _ := C
    clear C hok hv hv2
    generalize l.length = len at C' ⊢
    go_enter Try.func8, Try.ntmps8
    go_wp2_with fail
    refine (C'.out _ h).mono ?_
    rintro e w1 ⟨rfl, b1⟩
    have B : Hid (Below w.heap.size w w1) := b1
    clear b1
    have H : Hid (RRow w.heap.size (w1.alloc (.cells #[] 26)) (.slice (some ⟨w1.heap.size, 0, none⟩) 0 0) []) := row_built w1 _ B.out.size
    go_wp2
    go_ret2
    exact ⟨⟨_, rfl, H.out⟩, B.out.alloc B.out.size _⟩
  rw [hok] at C
  have hs : Hid (l.Pairwise fun a b => a.lt b = true) := (trieOk_of hok).sorted
  have h64 : l.length ≤ 64 := by
    unfold rtsOk at hok
    rw [Bool.and_eq_true, decide_eq_true_iff] at hok
    exact hok.1
  have ht := there_at (r := ⟨net, bits, 0⟩) hs.out
  have D := fun w h => implCloneR a cap l w h hn hT
  have E := fun a cap w h => implSearch a cap l ⟨net, bits, 0⟩ w h64 hs h
  have hv : takeL l net bits = if thereB l ⟨net, bits, 0⟩ = true then l.take (insN l ⟨net, bits, 0⟩) ++ l.drop (insN l ⟨net, bits, 0⟩ + 1) else l := by
    unfold takeL
    rw [if_pos hok]
    by_cases hx : atN l net bits < l.length
    · rw [if_pos hx, if_pos (ht.1.2 hx), ht.2 hx]
    · rw [if_neg hx, if_neg (fun e => hx (ht.1.1 e))]
  have hv2 : takeB l net bits = thereB l ⟨net, bits, 0⟩ := by
    unfold takeB
    rw [hok, Bool.true_and, Bool.eq_iff_iff, decide_eq_true_iff]
    exact ht.1.symm
  have hKl : thereB l ⟨net, bits, 0⟩ = true → insN l ⟨net, bits, 0⟩ < l.length := by
    intro e
    unfold thereB at e
    rw [Bool.and_eq_true, decide_eq_true_iff] at e
    exact e.1
  rw [hv, hv2]
  clear hv hv2 ht hok hs
  generalize insN l ⟨net, bits, 0⟩ = K at E hKl ⊢
  generalize thereB l ⟨net, bits, 0⟩ = tb at E hKl ⊢
  unfold Rt.val at E
  simp only [] at E
  have HR : Hid (∀ (base : Nat) (W : World) (v : Value), RRow base W v l → ∃ a' c', v = .slice a' l.length c' ∧ RtsAt W a' l) := by
    show ∀ (base : Nat) (W : World) (v : Value), RRow base W v l → _
    intro base W v hr
    obtain ⟨a', c', rfl⟩ := hr.shape
    exact ⟨a', c', rfl, hr.at⟩
  obtain ⟨len, hlen⟩ : ∃ n, l.length = n := ⟨_, rfl⟩
  have Hlen : Hid (l.length = len) := hlen
  have C' : Hid _ := C
  have D' : Hid _ := D
  have E' : Hid _ := E
  simp only [hlen] at C' D' E' HR hKl h64 ⊢
  clear C D E hlen
  cases tb
  · simp only [Bool.false_eq_true, if_false]
    go_enter Try.func8, Try.ntmps8
    go_wp2_with fail
    refine (C'.out _ h).mono ?_
    rintro e w1 ⟨rfl, b1⟩
    have B : Hid (Below w.heap.size w w1) := b1
    clear b1
    go_wp2_with fail
    refine (D'.out _ (h.out.below B.out)).mono ?_
    rintro e w2 ⟨v2, rfl, r2, b2⟩
    obtain ⟨a2, c2, rfl, rt2⟩ := HR.out _ _ _ r2
    have H2 : Hid (RRow w.heap.size w2 (.slice a2 len c2) l ∧ Below w.heap.size w w2 ∧ RtsAt w2 a2 l) := ⟨r2.mono B.out.size, B.out.trans (b2.mono B.out.size), rt2⟩
    clear r2 b2 rt2 B
    go_wp2_with fail
    refine (E'.out _ _ _ H2.out.2.2).mono ?_
    rintro e w3 ⟨rfl, b3⟩
    have H3 : Hid (RRow w.heap.size w3 (.slice a2 len c2) l ∧ Below w.heap.size w w3) := ⟨H2.out.1.below (fun k hk => (H2.out.1.lt k hk).2) b3, H2.out.2.1.trans (b3.mono H2.out.2.1.size)⟩
    clear b3 H2
    go_wp2
    go_ret2
    exact ⟨⟨_, rfl, H3.out.1⟩, H3.out.2⟩
  · simp only [if_true]
    have hK : K < len := hKl rfl
    obtain ⟨Dn, hDn⟩ : ∃ D, len = K + 1 + D := ⟨len - (K + 1), by omega⟩
    have X : Hid (∀ (base g cap : Nat) (w : World), RRow base w (.slice (some ⟨g, 0, none⟩) (K + 1 + Dn) cap) l → Calls Try.prog 27 #[.slice (some ⟨g, 0, none⟩) (K + 1 + Dn) cap, .int .i64 (K : Int), .int .i64 ((K : Int) + 1)] w fun e w' => e = .returned (.slice (some ⟨g, 0, none⟩) (K + Dn) cap) ∧ RRow base w' (.slice (some ⟨g, 0, none⟩) (K + Dn) cap) (l.take K ++ l.drop (K + 1)) ∧ Below base w w') := by
      show ∀ (base g cap : Nat) (w : World), _
      intro base g cap w hr
      refine implDelete base g cap (l.take K) (l.drop (K + 1)) (rtAt l K) K Dn (by rw [List.length_take, Hlen.out]; omega) (by rw [List.length_drop, Hlen.out]; omega) w ?_
      rw [← split_at l K (by rw [Hlen.out]; exact hK)]
      exact hr
    subst hDn
    go_enter Try.func8, Try.ntmps8
    go_wp2_with fail
    refine (C'.out _ h).mono ?_
    rintro e w1 ⟨rfl, b1⟩
    have B : Hid (Below w.heap.size w w1) := b1
    clear b1
    go_wp2_with fail
    refine (D'.out _ (h.out.below B.out)).mono ?_
    rintro e w2 ⟨v2, rfl, r2, b2⟩
    obtain ⟨a2, c2, rfl, rt2⟩ := HR.out _ _ _ r2
    obtain ⟨g2, rfl⟩ : ∃ g, a2 = some ⟨g, 0, none⟩ := by
      rcases r2.2 with ⟨e, _⟩ | ⟨g, cap', cur, e, _⟩
      · have := (Value.slice.inj e).2.1; omega
      · exact ⟨g, (Value.slice.inj e).1⟩
    have H2 : Hid (RRow w.heap.size w2 (.slice (some ⟨g2, 0, none⟩) (K + 1 + Dn) c2) l ∧ Below w.heap.size w w2 ∧ RtsAt w2 (some ⟨g2, 0, none⟩) l) := ⟨r2.mono B.out.size, B.out.trans (b2.mono B.out.size), rt2⟩
    clear r2 b2 rt2 B
    go_wp2_with fail
    refine (E'.out _ _ _ H2.out.2.2).mono ?_
    rintro e w3 ⟨rfl, b3⟩
    have H3 : Hid (RRow w.heap.size w3 (.slice (some ⟨g2, 0, none⟩) (K + 1 + Dn) c2) l ∧ Below w.heap.size w w3) := ⟨H2.out.1.below (fun k hk => (H2.out.1.lt k hk).2) b3, H2.out.2.1.trans (b3.mono H2.out.2.1.size)⟩
    clear b3 H2
    go_wp2_with fail
    refine (X.out _ _ _ _ H3.out.1).mono ?_
    rintro e w4 ⟨rfl, r4, b4⟩
    have H4 : Hid (RRow w.heap.size w4 (.slice (some ⟨g2, 0, none⟩) (K + Dn) c2) (l.take K ++ l.drop (K + 1)) ∧ Below w.heap.size w w4) := ⟨r4, H3.out.2.trans b4⟩
    clear r4 b4 H3
    go_wp2
    go_ret2
    exact ⟨⟨_, rfl, H4.out.1⟩, H4.out.2⟩
end Go.Proofs.Ytbokeaaicbffdaa
