import Derived.Test.YtilnjmpnhadidaaRtDrawL
import Derived.Test.YtilnjmpnhadidaaCpCompT
import Derived.Test.YtilnjmpnhadidaaCpTrimS
import Derived.Test.YtilnjmpnhadidaaCpTrim
import Derived.Test.YtilnjmpnhadidaaCpPairS
import Derived.Test.YtilnjmpnhadidaaCpPair
/-
  The model's drawing of a list of routes, and of two lists that may be alike. By the verifier.
-/
namespace Go.Proofs.Ytilnjmpnhadidaa
open Go.RowKit

theorem bel_two {B n : Nat} {W w w' : World} (b : Below B W w) (b' : Below B W w') (hs : w.heap.size ≤ w'.heap.size) (hk : ∀ k, k < n → w'.heap[k]? = w.heap[k]?) : Below n w w' :=
  ⟨b'.os.trans b.os.symm, b'.tape.trans b.tape.symm, b'.output.trans b.output.symm, hs, hk⟩

set_option maxHeartbeats 1600000 in
theorem drawOkL {W : World} {a : Option Addr} {len cap : Nat} (hc : Hid (Code W a len)) (w : World) (bel : Hid (Below W.heap.size W w)) :
    Calls Try.prog 29 #[.slice a len cap] w fun e w' => (∃ (g c : Nat) (L : List Rt), e = .returned (.slice (some ⟨g, 0, none⟩) L.length c) ∧ L.length ≤ 64 ∧ L.length ≤ c ∧ RtsAt w' (some ⟨g, 0, none⟩) L) ∧ Below w.heap.size w w' := by
  go_enter Try.func29, Try.ntmps29
  go_wp2_with fail
  refine (drawNew hc _ bel).mono ?_
  rintro e w1 ⟨rfl, c1, b1⟩
  obtain ⟨bc, hbc⟩ : ∃ bc, w.heap.size = bc := ⟨_, rfl⟩
  have H1 : Hid (Cur W bc a len cap w1 ∧ Below bc w w1) := by rw [← hbc]; exact ⟨c1, b1⟩
  have fin : ∀ w3 v L, DrL W bc a len cap w1 v L w3 → Below w.heap.size w w3 := fun w3 v L h => by
    have h1 := H1.out.2.size
    have h2 := h.kp.size
    exact bel_two bel.out h.cur.bel (by omega) fun k hk => (h.kp.block k (by omega) (by omega)).trans (H1.out.2.block k (by omega))
  have Fin : Hid _ := fin
  rw [hbc]
  clear c1 b1 hbc fin
  go_wp2_with fail
  refine (drawLists hc _ H1.out.1).mono ?_
  rintro e w2 ⟨g, c, L, rfl, hL, d2⟩
  have H2 : Hid (L.length ≤ 64 ∧ L.length ≤ c ∧ RtsAt w2 (some ⟨g, 0, none⟩) L ∧ Below w.heap.size w w2) := ⟨hL, d2.row.cap, RRow.at d2.row, Fin.out _ _ _ d2⟩
  clear d2 Fin H1 hL
  obtain ⟨n, hn⟩ : ∃ n, n = L.length := ⟨_, rfl⟩
  have Hn : Hid (n = L.length) := hn
  rw [← hn]
  clear hn
  go_wp2
  go_ret
  exact ⟨⟨g, c, L, by rw [Hn.out]; rfl, H2.out.1, H2.out.2.1, H2.out.2.2.1⟩, H2.out.2.2.2⟩

theorem drawComp {W : World} {a : Option Addr} {len cap : Nat} (hc : Hid (Code W a len)) (w : World) (bel : Hid (Below W.heap.size W w)) :
    Calls Try.prog 9 #[.slice a len cap] w fun e w' => (∃ (g c : Nat) (L : List Rt), e = .returned (.slice (some ⟨g, 0, none⟩) L.length c) ∧ L.length ≤ 64 ∧ L.length ≤ c ∧ RtsAt w' (some ⟨g, 0, none⟩) L) ∧ Below w.heap.size w w' := by
  go_enter Try.func9, Try.ntmps9
  go_wp2_with fail
  refine (drawOkL hc _ bel).mono ?_
  rintro e w1 ⟨⟨g, c, L, rfl, h1, h2, h3⟩, h4⟩
  have H2 : Hid (L.length ≤ 64 ∧ L.length ≤ c ∧ RtsAt w1 (some ⟨g, 0, none⟩) L ∧ Below w.heap.size w w1) := ⟨h1, h2, h3, h4⟩
  clear h1 h2 h3 h4
  obtain ⟨n, hn⟩ : ∃ n, n = L.length := ⟨_, rfl⟩
  have Hn : Hid (n = L.length) := hn
  rw [← hn]
  clear hn
  go_wp2
  go_ret
  exact ⟨⟨g, c, L, by rw [Hn.out]; rfl, H2.out.1, H2.out.2.1, H2.out.2.2.1⟩, H2.out.2.2.2⟩

theorem compV_le {l : List Rt} (h : l.length ≤ 64) : (compV l).length ≤ 64 := by
  unfold compV
  split
  · rename_i hok
    have := (comp_all l.length l (Nat.le_refl _) hok).2.1
    omega
  · simp

set_option maxHeartbeats 1600000 in
theorem drawAlike {W : World} {a : Option Addr} {len cap : Nat} (hc : Hid (Code W a len)) (w : World) (bel : Hid (Below W.heap.size W w)) :
    Calls Try.prog 13 #[.slice a len cap] w fun e w' => (∃ (a1 a2 : Option Addr) (c1 c2 : Nat) (L M : List Rt), e = .returned (.tuple #[.slice a1 L.length c1, .slice a2 M.length c2]) ∧ L.length ≤ 64 ∧ M.length ≤ 64 ∧ L.length ≤ c1 ∧ M.length ≤ c2 ∧ (a1 = none → c1 = 0) ∧ (a2 = none → c2 = 0) ∧ RtsAt w' a1 L ∧ RtsAt w' a2 M) ∧ Below w.heap.size w w' := by
  go_enter Try.func13, Try.ntmps13
  go_wp2_with fail
  refine (drawNew hc _ bel).mono ?_
  rintro e w1 ⟨rfl, c1, b1⟩
  obtain ⟨bc, hbc⟩ : ∃ bc, w.heap.size = bc := ⟨_, rfl⟩
  have H1 : Hid (Cur W bc a len cap w1 ∧ Below bc w w1) := by rw [← hbc]; exact ⟨c1, b1⟩
  have fin : ∀ w3 v L, DrL W bc a len cap w1 v L w3 → Below w.heap.size w w3 := fun w3 v L h => by
    have h1 := H1.out.2.size
    have h2 := h.kp.size
    exact bel_two bel.out h.cur.bel (by omega) fun k hk => (h.kp.block k (by omega) (by omega)).trans (H1.out.2.block k (by omega))
  have Fin : Hid _ := fin
  rw [hbc]
  clear c1 b1 hbc fin
  go_wp2_with fail
  refine (drawLists hc _ H1.out.1).mono ?_
  rintro e w2 ⟨g, c, L, rfl, hL, d2⟩
  have H2 : Hid (DrL W bc a len cap w1 (.slice (some ⟨g, 0, none⟩) L.length c) L w2) := d2
  have hLc := d2.row.cap
  have S := fun w h => specComp (some ⟨g, 0, none⟩) c L w (by omega) (by simp) h
  have S' : Hid _ := S
  have hC : (compV L).length ≤ 64 := compV_le hL
  clear d2 S
  have Rt' : Hid (∀ w3, DrL W bc a len cap w1 (.slice (some ⟨g, 0, none⟩) L.length c) L w3 → RtsAt w3 (some ⟨g, 0, none⟩) L) := fun w3 h => RRow.at h.row
  obtain ⟨n, hn⟩ : ∃ n, L.length = n := ⟨_, rfl⟩
  have Hn : Hid (L.length = n) := hn
  simp only [hn] at H2 hL hLc S' Rt' ⊢
  clear hn
  go_wp2_with fail
  refine (drawOnce hc 2 (by omega) _ H2.out.cur).mono ?_
  rintro e w3 ⟨⟨x, rfl⟩, c3, k3⟩
  have H3 : Hid (DrL W bc a len cap w1 (.slice (some ⟨g, 0, none⟩) n c) L w3) := H2.out.draw c3 k3
  clear c3 k3 H2
  cases x
  · go_wp2_with fail
    refine (drawLists hc _ H3.out.cur).mono ?_
    rintro e w4 ⟨g4, c4, M, rfl, hM, d4⟩
    have H4 : Hid (RtsAt w4 (some ⟨g, 0, none⟩) L ∧ RtsAt w4 (some ⟨g4, 0, none⟩) M ∧ Below w.heap.size w w4) := ⟨Rt'.out _ (H3.out.draw d4.cur d4.kp), RRow.at d4.row, Fin.out _ _ _ (H3.out.draw d4.cur d4.kp)⟩
    have hMc := d4.row.cap
    clear d4 H3 Rt' Fin
    obtain ⟨m, hm⟩ : ∃ n, M.length = n := ⟨_, rfl⟩
    have Hm : Hid (M.length = m) := hm
    simp only [hm] at hM hMc ⊢
    clear hm
    go_wp2
    refine bodyPost_ret (v := .tuple #[.slice (some ⟨g, 0, none⟩) n c, .slice (some ⟨g4, 0, none⟩) m c4]) (by simp [results, Try.results13, go_sem]) rfl ?_
    exact ⟨⟨some ⟨g, 0, none⟩, some ⟨g4, 0, none⟩, c, c4, L, M, by rw [Hn.out, Hm.out], by rw [Hn.out]; exact hL, by rw [Hm.out]; exact hM, by rw [Hn.out]; exact hLc, by rw [Hm.out]; exact hMc, by simp, by simp, H4.out.1, H4.out.2.1⟩, H4.out.2.2⟩
  · go_wp2_with fail
    refine (S'.out _ (Rt'.out _ H3.out)).mono ?_
    rintro e w4 ⟨⟨v, rfl, r4⟩, b4⟩
    obtain ⟨a4, c4, rfl⟩ := r4.shape
    have H4 : Hid (RtsAt w4 (some ⟨g, 0, none⟩) L ∧ RtsAt w4 a4 (compV L) ∧ Below w.heap.size w w4) := ⟨(Rt'.out _ H3.out).below b4, r4.at, by
      have q := Fin.out _ _ _ H3.out
      exact q.trans (b4.mono q.size)⟩
    have hMc := r4.cap
    have hMn := r4.none
    clear b4 r4 H3 Rt' Fin S'
    generalize compV L = M at hC H4 hMc ⊢
    obtain ⟨m, hm⟩ : ∃ n, M.length = n := ⟨_, rfl⟩
    have Hm : Hid (M.length = m) := hm
    simp only [hm] at hC hMc ⊢
    clear hm
    go_wp2
    refine bodyPost_ret (v := .tuple #[.slice (some ⟨g, 0, none⟩) n c, .slice a4 m c4]) (by simp [results, Try.results13, go_sem]) rfl ?_
    exact ⟨⟨some ⟨g, 0, none⟩, a4, c, c4, L, M, by rw [Hn.out, Hm.out], by rw [Hn.out]; exact hL, by rw [Hm.out]; exact hC, by rw [Hn.out]; exact hLc, by rw [Hm.out]; exact hMc, by simp, hMn, H4.out.1, H4.out.2.1⟩, H4.out.2.2⟩
end Go.Proofs.Ytilnjmpnhadidaa

/-
  The walk of the model's Trimmed, its face. By the verifier.
-/
namespace Go.Proofs.Ytilnjmpnhadidaa
open Go.RowKit

theorem trimV_length (l : List Rt) (h : l.length ≤ 1048576) : (trimV l).length ≤ 1048576 := by
  unfold trimV
  split
  · have := List.length_filter_le (fun r => !decide (aboveV l r = r.hop)) l
    unfold trimL
    omega
  · simp

set_option maxHeartbeats 1600000 in
theorem specTrim (a : Option Addr) (cap : Nat) (l : List Rt) (w : World) (hT : l.length ≤ 1048576) (_hn : a = none → cap = 0) (h : Hid (RtsAt w a l)) :
    Calls Try.prog 17 #[.slice a l.length cap] w fun e w' => (∃ v', e = .returned v' ∧ RRow w.heap.size w' v' (trimV l)) ∧ Below w.heap.size w w' := by
  have C := fun w h => specOk a cap l w hT h
  unfold trimV
  cases hok : rtsOk l
  · simp only [Bool.false_eq_true, if_false]
    rw [hok] at C
    have C' : Hid _ := C
    clear C hok
    generalize l.length = len at C' ⊢
    go_enter Try.func17, Try.ntmps17
    go_wp2_with fail
    refine (C'.out _ h).mono ?_
    rintro e w1 ⟨rfl, b1⟩
    have B : Hid (Below w.heap.size w w1) := b1
    clear b1
    go_wp2
    go_ret
    exact ⟨⟨_, rfl, row_built _ _ B.out.size⟩, B.out.alloc B.out.size _⟩
  · simp only [if_true]
    rw [hok] at C
    have T := fun w h => specTrimL a cap l w (ok_all hok).1 (fine_of hok) h
    have T' : Hid _ := T
    have C' : Hid _ := C
    clear C T hok
    generalize l.length = len at C' T' ⊢
    go_enter Try.func17, Try.ntmps17
    go_wp2_with fail
    refine (C'.out _ h).mono ?_
    rintro e w1 ⟨rfl, b1⟩
    have B : Hid (Below w.heap.size w w1) := b1
    clear b1
    go_wp2_with fail
    refine (T'.out _ (h.out.below B.out)).mono ?_
    rintro e w2 ⟨⟨v2, rfl, r2, _⟩, b2⟩
    have X : Hid (RRow w.heap.size w2 v2 (trimL l) ∧ Below w.heap.size w w2) := ⟨r2.mono B.out.size, B.out.trans (b2.mono B.out.size)⟩
    clear r2 b2
    go_wp2
    go_ret
    exact ⟨⟨_, rfl, X.out.1⟩, X.out.2⟩
end Go.Proofs.Ytilnjmpnhadidaa

/-
  The walk of the model's Paired, its face. By the verifier.
-/
namespace Go.Proofs.Ytilnjmpnhadidaa
open Go.RowKit

theorem pairV_length (l : List Rt) (h : l.length ≤ 1048576) : (pairV l).length ≤ 1048576 := by
  unfold pairV
  split
  · rename_i hok
    have := pair_length (fine_of hok)
    omega
  · simp

set_option maxHeartbeats 1600000 in
theorem specPair (a : Option Addr) (cap : Nat) (l : List Rt) (w : World) (hT : l.length ≤ 1048576) (hn : a = none → cap = 0) (h : Hid (RtsAt w a l)) :
    Calls Try.prog 18 #[.slice a l.length cap] w fun e w' => (∃ v', e = .returned v' ∧ RRow w.heap.size w' v' (pairV l)) ∧ Below w.heap.size w w' := by
  have C := fun w h => specOk a cap l w hT h
  unfold pairV
  cases hok : rtsOk l
  · simp only [Bool.false_eq_true, if_false]
    rw [hok] at C
    have C' : Hid _ := C
    clear C hok
    generalize l.length = len at C' ⊢
    go_enter Try.func18, Try.ntmps18
    go_wp2_with fail
    refine (C'.out _ h).mono ?_
    rintro e w1 ⟨rfl, b1⟩
    have B : Hid (Below w.heap.size w w1) := b1
    clear b1
    go_wp2
    go_ret
    exact ⟨⟨_, rfl, row_built _ _ B.out.size⟩, B.out.alloc B.out.size _⟩
  · simp only [if_true]
    rw [hok] at C
    have T := fun w h => specPairL a cap l w (ok_all hok).1 (fine_of hok) hn h
    have T' : Hid _ := T
    have C' : Hid _ := C
    clear C T hok
    generalize l.length = len at C' T' ⊢
    go_enter Try.func18, Try.ntmps18
    go_wp2_with fail
    refine (C'.out _ h).mono ?_
    rintro e w1 ⟨rfl, b1⟩
    have B : Hid (Below w.heap.size w w1) := b1
    clear b1
    go_wp2_with fail
    refine (T'.out _ (h.out.below B.out)).mono ?_
    rintro e w2 ⟨⟨v2, rfl, r2, _⟩, b2⟩
    have X : Hid (RRow w.heap.size w2 v2 (pairL l) ∧ Below w.heap.size w w2) := ⟨r2.mono B.out.size, B.out.trans (b2.mono B.out.size)⟩
    clear r2 b2
    go_wp2
    go_ret
    exact ⟨⟨_, rfl, X.out.1⟩, X.out.2⟩
end Go.Proofs.Ytilnjmpnhadidaa
