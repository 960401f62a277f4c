/-
  The model's drawing of the arguments of Stirred. By the verifier, by program.
-/
import Derived.Test.YtemegnfefjcdaaaDoorSrDraw
namespace Go.Proofs.YtemegnfefjcdaaaDoor
open Go.RowKit

set_option maxHeartbeats 6400000 in
set_option maxRecDepth 100000 in
theorem dDrawStirred {W : World} {ac : Option Addr} {len cap : Nat} (hc : Hid (Code W ac len)) (w : World) (bel : Hid (Below W.heap.size W w)) :
    Calls Tryd.prog 8 #[.slice ac len cap] w fun e w' => (∃ (l : Sr) (d : Int), e = .returned (.tuple #[l.val, .int .i64 d]) ∧ l.drawn ∧ (-1 ≤ d ∧ d ≤ 100001)) ∧ Below w.heap.size w w' := by
  have hle := bel.out.size
  obtain ⟨w0, hw0⟩ : ∃ w0, w0 = w.alloc (.cells #[.int .i64 0, .int .i64 0, .int .i64 0] 25) := ⟨_, rfl⟩
  have hs0 : w0.heap.size = w.heap.size + 1 := by rw [hw0]; simp
  have H0 : Hid (Below W.heap.size W w0 ∧ Below w.heap.size w w0 ∧ Boxed w0 w.heap.size #[.int .i64 0, .int .i64 0, .int .i64 0] 25) := by
    rw [hw0]
    exact ⟨bel.out.alloc hle _, (Below.refl _ _).alloc (Nat.le_refl _) _, Boxed.new _ _ _⟩
  have HW0 : Hid (w0 = _) := hw0
  have HS0 : Hid (w0.heap.size = _) := hs0
  clear hw0 hs0
  go_enter Tryd.func8, Tryd.ntmps8
  go_wp2_with fail
  rw [← HW0.out]
  refine (drawNew hc _ H0.out.1).mono ?_
  rintro e w1 ⟨rfl, c1, b1⟩
  rw [HS0.out] at c1 b1 ⊢
  have H1 : Hid (Cur W (w.heap.size + 1) ac len cap w1 ∧ Below w.heap.size w w1 ∧ Boxed w1 w.heap.size #[.int .i64 0, .int .i64 0, .int .i64 0] 25 ∧ w.heap.size + 1 < w1.heap.size) := ⟨c1, H0.out.2.1.trans (b1.mono (by omega)), H0.out.2.2.below (by omega) b1, c1.lt⟩
  clear c1 b1 H0 HW0 HS0
  go_wp2_with fail
  refine (drawSteer hc _ H1.out.1).mono ?_
  rintro e w2 ⟨⟨v, rfl, l, hv, hdr⟩, c2, k2⟩
  have hv : v = .agg #[.int .i64 l.target, .int .i64 l.old, .int .i64 l.prob] := hv
  subst hv
  have X1 : Hid (DrO 25 W ac len cap w (w.heap.size + 1) w2.heap.size #[.int .i64 0, .int .i64 0, .int .i64 0] (w2.alloc (.cells #[.int .i64 0, .int .i64 0, .int .i64 0] 25)) ∧ Boxed (w2.alloc (.cells #[.int .i64 0, .int .i64 0, .int .i64 0] 25)) w.heap.size #[.int .i64 0, .int .i64 0, .int .i64 0] 25) := by
    have q1 := H1.out.2.1.size
    have q2 := k2.size
    have q3 := H1.out.1.lt
    have b2 : Below w.heap.size w w2 := bel_two bel.out c2.bel (by omega) fun k hk => (k2.block k (by omega) (by omega)).trans (H1.out.2.1.block k hk)
    exact ⟨⟨c2.alloc _, b2.alloc b2.size _, Boxed.new _ _ _, by omega, by omega, bel.out⟩, (boxKeep H1.out.2.2.1 (by omega) k2).more _⟩
  have X2 : Hid (DrO 25 W ac len cap w (w.heap.size + 1) w2.heap.size #[.int .i64 l.target, .int .i64 l.old, .int .i64 l.prob] ((w2.alloc (.cells #[.int .i64 0, .int .i64 0, .int .i64 0] 25)).setRow w2.heap.size #[.int .i64 l.target, .int .i64 l.old, .int .i64 l.prob]) ∧ Boxed ((w2.alloc (.cells #[.int .i64 0, .int .i64 0, .int .i64 0] 25)).setRow w2.heap.size #[.int .i64 l.target, .int .i64 l.old, .int .i64 l.prob]) w.heap.size #[.int .i64 0, .int .i64 0, .int .i64 0] 25) := by
    refine ⟨X1.out.1.fill _, (setRow_other _ _ _ _ ?_).trans X1.out.2⟩
    have := X1.out.1.hB
    have := X1.out.1.hc
    omega
  have Hdr : Hid l.drawn := hdr
  clear c2 k2 hdr H1
  go_wp2_with (refine wpList_store_row rfl 25 (.tmp 5) (.tmp 9) rfl w2.heap.size #[.int .i64 l.target, .int .i64 l.old, .int .i64 l.prob] rfl rfl _ _ X1.out.1.out (by kernel_rfl) rfl (srOnes _ _ _) ?_)
  clear X1
  generalize (w2.alloc (.cells #[.int .i64 0, .int .i64 0, .int .i64 0] 25)).setRow w2.heap.size #[.int .i64 l.target, .int .i64 l.old, .int .i64 l.prob] = w3 at X2 ⊢
  generalize w2.heap.size = B at X2 ⊢
  refine region_lists (G := Unit) (by kernel_rfl) (by kernel_rfl) (by kernel_rfl) (fun _ => 99) (fun (L : Nat → Bool) (_ : Unit) (x : World) => (DrO 25 W ac len cap w (w.heap.size + 1) B #[.int .i64 l.target, .int .i64 l.old, .int .i64 l.prob] x) ∧ (∃ zs : Array Value, zs.size = 3 ∧ Boxed x w.heap.size zs 25) ∧ (L 3 = true → Boxed x w.heap.size #[.int .i64 l.target, .int .i64 l.old, .int .i64 l.prob] 25)) (fun i _ x _ x' => ∀ k, w.heap.size + 1 < k → k < x.heap.size → x'.heap[k]? = x.heap[k]?) (fun i y x v => ([fun _ _ v => v = .agg #[.int .i64 l.target, .int .i64 l.old, .int .i64 l.prob], fun _ _ v => v = .pointer (some ⟨w.heap.size + 1, 0, none⟩), fun _ _ v => ∃ z : Int, v = .int .i64 z ∧ (-1 ≤ z ∧ z ≤ 100001), fun _ _ _ => True, fun _ _ v => ∃ z : Int, v = .int .i64 z ∧ (-1 ≤ z ∧ z ≤ 100001)] : List (Unit → World → Value → Prop)).getD i (fun _ _ _ => True) y x v) ?hR () ?h0 ?step ?last
  case hR =>
    intro i j y y' x x' v hi hj hne hu h1 h2 hp hr
    have hj' : j < 5 := hj
    have hcases : j = 0 ∨ j = 1 ∨ j = 2 ∨ j = 3 ∨ j = 4 := by omega
    rcases hcases with rfl | rfl | rfl | rfl | rfl
    · exact hp
    · exact hp
    · exact hp
    · exact hp
    · exact hp
  case h0 => exact ⟨X2.out.1.below (Below.refl _ _).drew, ⟨_, rfl, X2.out.2⟩, fun h => by cases h⟩
  case step =>
    intro i o hi ho L a' y x hLi hwt hre hkp hI hp
    have sB : a'.tmps.getD 5 undef = .pointer (some ⟨B, 0, none⟩) := hkp.slot 5 (by kernel_rfl)
    have sC : a'.tmps.getD 4 undef = .pointer (some ⟨w.heap.size + 1, 0, none⟩) := hkp.slot 4 (by kernel_rfl)
    have s2 : a'.tmps.getD 2 undef = .pointer (some ⟨w.heap.size, 0, none⟩) := hkp.slot 2 (by kernel_rfl)
    have hD := hI.1
    have hcc := hD.hc
    have hi' : i < 5 := hi
    have hcases : i = 0 ∨ i = 1 ∨ i = 2 ∨ i = 3 ∨ i = 4 := by omega
    rcases hcases with rfl | rfl | rfl | rfl | rfl
    · cases ho
      exact ⟨wanted_none rfl, wp_load_row 25 (.tmp 5) rfl B sB _ _ _ _ hD.out Tryd.underlying25 rfl (by kernel_rfl) ⟨_, (), rfl, fun _ _ _ => rfl, hI, fun u hu => hu (fun h => by cases h)⟩⟩
    · cases ho
      exact ⟨wanted_none rfl, op_move 4 rfl ⟨_, (), rfl, fun _ _ _ => rfl, hI, fun u hu => (hu (fun h => by cases h)).trans sC⟩⟩
    · cases ho
      have q0 : a'.tmps[11]?.getD undef = .pointer (some ⟨w.heap.size + 1, 0, none⟩) := by have h2 : a'.tmps.getD 11 undef = .pointer (some ⟨w.heap.size + 1, 0, none⟩) := hp 1 (of_decide_eq_true (by kernel_rfl)) (.inr (by decide)); simpa using h2
      refine ⟨wanted_none rfl, op_callB (by simp [execOp, resolve, Deferred.ofValue, invoke, Act.eval, q0]) (drawDelay hc x hD.cur) ?_⟩
      rintro e z ⟨⟨v, rfl, v0, v1⟩, ci, ki⟩
      exact ⟨_, rfl, _, (), rfl, fun k h1 h2 => ki.block k (by omega) h2, ⟨hD.draw ci ki, (hI.2.1.imp fun zs h => ⟨h.1, boxKeep h.2 (by omega) ki⟩), fun h => boxKeep (hI.2.2 h) (by omega) ki⟩, fun u hu => ⟨v, hu (fun h => by cases h), by omega⟩⟩
    · cases ho
      have e1 : a'.tmps.getD 10 undef = .agg #[.int .i64 l.target, .int .i64 l.old, .int .i64 l.prob] := hp 0 (of_decide_eq_true (by kernel_rfl)) (.inr (by decide))
      obtain ⟨zs, hz0, hz⟩ := hI.2.1
      exact ⟨wanted_none rfl, wp_store_row 25 (.tmp 2) (.tmp 10) rfl w.heap.size #[.int .i64 l.target, .int .i64 l.old, .int .i64 l.prob] (by simpa [Act.eval] using s2) (by simpa [Act.eval] using e1) _ _ hz (by kernel_rfl) hz0 (by simp [Value.oneCell']) ⟨_, (), rfl, fun k h1 _ => setRow_other _ _ _ _ (by omega), ⟨hD.row (Nat.le_refl _) (by omega) _, ⟨_, rfl, setRow_heap _ _ _ _ _ _ hz⟩, fun _ => setRow_heap _ _ _ _ _ _ hz⟩, fun _ _ => trivial⟩⟩
    · cases ho
      obtain ⟨z, e1, e2⟩ := hp 2 (of_decide_eq_true (by kernel_rfl)) (.inr (by decide))
      have e1 : a'.tmps.getD 12 undef = .int .i64 z := e1
      exact ⟨wanted_none rfl, opAssign 12 rfl ⟨_, (), rfl, fun _ _ _ => rfl, hI, fun u hu => ⟨z, (hu (fun h => by cases h)).trans e1, e2⟩⟩⟩
  case last =>
  intro L a' y x hall hkp hI hp
  obtain ⟨z, hz, hzb⟩ := hp 4 (by decide) (by decide)
  have e3 : a'.tmps.getD 3 undef = .int .i64 z := hz
  have s2 : a'.tmps.getD 2 undef = .pointer (some ⟨w.heap.size, 0, none⟩) := hkp.slot 2 (by kernel_rfl)
  have b1 := hI.2.2 (hall 3 (by decide))
  have hd : a'.defers = [] := hkp.defers
  have Fin : Hid (_ ∧ _) := And.intro (results_row_tmp Tryd.results8 a'.tmps x w.heap.size _ _ _ _ (.int .i64 z) s2 e3 b1 Tryd.underlying25 rfl (by kernel_rfl)) hd
  have Bl : Hid (Below w.heap.size w x) := hI.1.bel
  have HZ : Hid _ := hzb
  clear hp hkp hI hz e3 s2 b1 hall hd hzb
  go_wp2
  exact bodyPost_ret Fin.out.1 Fin.out.2 ⟨⟨l, z, rfl, Hdr.out, HZ.out⟩, Bl.out⟩
end Go.Proofs.YtemegnfefjcdaaaDoor
