/-
  The model's drawing of lists of rules, right or not. By the verifier, by program.
-/
import Derived.Test.YtdifegaokdoleaaRuDrawL
namespace Go.Proofs.Ytdifegaokdoleaa
open Go.RowKit

theorem bel_ru {B n : Nat} {W w w' : World} (b : Below B W w) (b' : Below B W w') (hs : w.heap.size ≤ w'.heap.size) (hk : ∀ k, k < n → w'.heap[k]? = w.heap[k]?) : Below n w w' :=
  ⟨b'.os.trans b.os.symm, b'.tape.trans b.tape.symm, b'.output.trans b.output.symm, hs, hk⟩

set_option maxHeartbeats 3200000 in
set_option maxRecDepth 100000 in
theorem drawRulesA {W : World} {bc : Nat} {ac : Option Addr} {len0 cap : Nat} (hc : Hid (Code W ac len0)) (w : World) (cur : Hid (Cur W bc ac len0 cap w)) :
    Calls Try.prog 30 #[.pointer (some ⟨bc, 0, none⟩)] w fun e w' => ∃ (g c : Nat) (L : List Ru), e = .returned (.slice (some ⟨g, 0, none⟩) L.length c) ∧ L.length ≤ 6 ∧ DrLU W bc ac len0 cap w (.slice (some ⟨g, 0, none⟩) L.length c) L w' := by
  have hbc := cur.out.lt
  go_enter Try.func30, Try.ntmps30
  go_wp2_with fail
  refine (drawRules hc _ cur).mono ?_
  rintro e w1 ⟨g, c, L, rfl, hL, d1⟩
  have H1 : Hid (DrLU W bc ac len0 cap w (.slice (some ⟨g, 0, none⟩) L.length c) L w1) := d1
  clear d1
  go_wp2_with fail
  refine (drawOnce hc 16 (by omega) _ H1.out.cur).mono ?_
  rintro e w2 ⟨⟨bo, rfl⟩, c2, k2⟩
  have H2 : Hid (DrLU W bc ac len0 cap w (.slice (some ⟨g, 0, none⟩) L.length c) L w2) := H1.out.draw c2 k2
  clear c2 k2 H1
  cases bo
  · go_wp2
    go_ret
    exact ⟨g, c, L, rfl, by omega, H2.out⟩
  · go_wp2_with fail
    refine (drawRule hc _ H2.out.cur).mono ?_
    rintro e w3 ⟨⟨r, rfl⟩, c3, k3⟩
    have H3 : Hid (DrLU W bc ac len0 cap w (.slice (some ⟨g, 0, none⟩) L.length c) L w3) := H2.out.draw c3 k3
    clear c3 k3 H2
    unfold Ru.val
    obtain ⟨len, hlen⟩ : ∃ n, L.length = n := ⟨_, rfl⟩
    have Hlen : Hid (L.length = len) := hlen
    rw [hlen] at H3 hL ⊢
    clear hlen
    go_wp2_with (at_builtin; refine ru_app rfl (.tmp 8) (.tmp 11) rfl w.heap.size _ L _ 1 1 [r] rfl rfl rfl (H3.out.more _).row ((ru_built1 _ w.heap.size r H3.out.kp.size).at) (by simp) (by rw [Hlen.out]; simp; omega) (H3.out.more _).kp.size ?_)
    intro v w4 r4 b4 gr4 n4
    clear gr4
    obtain ⟨g4, c4, rfl⟩ := r4.some (fun e => by cases n4 e)
    have H4 : Hid (DrLU W bc ac len0 cap w (.slice (some ⟨g4, 0, none⟩) (L ++ [r]).length c4) (L ++ [r]) w4) := (H3.out.more _).grow b4 r4
    have hl4 : (L ++ [r]).length ≤ 6 := by rw [List.length_append, Hlen.out]; simp; omega
    clear r4 b4 n4 H3
    generalize L ++ [r] = L4 at H4 hl4 ⊢
    go_wp2
    go_ret
    exact ⟨g4, c4, L4, rfl, hl4, H4.out⟩

set_option maxHeartbeats 3200000 in
theorem drawRulesOk {W : World} {ac : Option Addr} {len cap : Nat} (hc : Hid (Code W ac len)) (w : World) (bel : Hid (Below W.heap.size W w)) :
    Calls Try.prog 40 #[.slice ac len cap] w fun e w' => (∃ (g c : Nat) (L : List Ru), e = .returned (.slice (some ⟨g, 0, none⟩) L.length c) ∧ L.length ≤ 6 ∧ L.length ≤ c ∧ RusAt w' (some ⟨g, 0, none⟩) L) ∧ Below w.heap.size w w' := by
  have hle := bel.out.size
  go_enter Try.func40, Try.ntmps40
  go_wp2_with fail
  refine (drawNew hc _ bel).mono ?_
  rintro e w1 ⟨rfl, c1, b1⟩
  have H1 : Hid (Cur W w.heap.size ac len cap w1 ∧ Below w.heap.size w w1) := ⟨c1, b1⟩
  clear c1 b1
  go_wp2_with fail
  refine (drawRulesA hc _ H1.out.1).mono ?_
  rintro e w2 ⟨g, c, L, rfl, hL, d2⟩
  have H2 : Hid (RusAt w2 (some ⟨g, 0, none⟩) L ∧ Below w.heap.size w w2 ∧ L.length ≤ c) := by
    have q1 := H1.out.2
    have q2 := d2.kp
    have q3 := q1.size
    have q4 := q2.size
    exact ⟨d2.row.at, bel_ru bel.out d2.cur.bel (by omega) fun k hk => (q2.block k (by omega) (by omega)).trans (q1.block k hk), d2.row.cap⟩
  clear d2 H1
  go_wp2
  go_ret
  exact ⟨⟨g, c, L, rfl, hL, H2.out.2.2, H2.out.1⟩, H2.out.2.1⟩
theorem drawShapes {W : World} {ac : Option Addr} {len cap : Nat} (hc : Hid (Code W ac len)) (w : World) (bel : Hid (Below W.heap.size W w)) :
    Calls Try.prog 9 #[.slice ac len cap] w fun e w' => (∃ (g c : Nat) (L : List Ru), e = .returned (.slice (some ⟨g, 0, none⟩) L.length c) ∧ L.length ≤ 6 ∧ L.length ≤ c ∧ RusAt w' (some ⟨g, 0, none⟩) L) ∧ Below w.heap.size w w' := by
  go_enter Try.func9, Try.ntmps9
  go_wp2_with fail
  refine (drawRulesOk hc _ bel).mono ?_
  rintro e w1 ⟨⟨g, c, L, rfl, hL, hcp, hr⟩, b1⟩
  have H1 : Hid (RusAt w1 (some ⟨g, 0, none⟩) L ∧ Below w.heap.size w w1) := ⟨hr, b1⟩
  clear hr b1
  go_wp2
  go_ret
  exact ⟨⟨g, c, L, rfl, hL, hcp, H1.out.1⟩, H1.out.2⟩
theorem drawIdle {W : World} {ac : Option Addr} {len cap : Nat} (hc : Hid (Code W ac len)) (w : World) (bel : Hid (Below W.heap.size W w)) :
    Calls Try.prog 20 #[.slice ac len cap] w fun e w' => (∃ (g c : Nat) (L : List Ru), e = .returned (.slice (some ⟨g, 0, none⟩) L.length c) ∧ L.length ≤ 6 ∧ L.length ≤ c ∧ RusAt w' (some ⟨g, 0, none⟩) L) ∧ Below w.heap.size w w' := by
  go_enter Try.func20, Try.ntmps20
  go_wp2_with fail
  refine (drawRulesOk hc _ bel).mono ?_
  rintro e w1 ⟨⟨g, c, L, rfl, hL, hcp, hr⟩, b1⟩
  have H1 : Hid (RusAt w1 (some ⟨g, 0, none⟩) L ∧ Below w.heap.size w w1) := ⟨hr, b1⟩
  clear hr b1
  go_wp2
  go_ret
  exact ⟨⟨g, c, L, rfl, hL, hcp, H1.out.1⟩, H1.out.2⟩
end Go.Proofs.Ytdifegaokdoleaa
