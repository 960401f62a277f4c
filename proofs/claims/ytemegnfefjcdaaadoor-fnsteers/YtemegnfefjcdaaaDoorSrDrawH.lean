/-
  The model's drawing of the arguments of Hit. By the verifier, by program.
-/
import Derived.Test.YtemegnfefjcdaaaDoorSrDraw
namespace Go.Proofs.YtemegnfefjcdaaaDoor
open Go.RowKit

set_option maxHeartbeats 6400000 in
set_option maxRecDepth 100000 in
theorem dDrawHit {W : World} {ac : Option Addr} {len cap : Nat} (hc : Hid (Code W ac len)) (w : World) (bel : Hid (Below W.heap.size W w)) :
    Calls Tryd.prog 10 #[.slice ac len cap] w fun e w' => (∃ (l : Sr) (x : Int), e = .returned (.tuple #[l.val, .int .i64 x]) ∧ l.drawn ∧ (-1 ≤ x ∧ x ≤ 1048576)) ∧ Below w.heap.size w w' := by
  have hle := bel.out.size
  obtain ⟨w0, hw0⟩ : ∃ w0, w0 = w.alloc (.cells #[.int .i64 0, .int .i64 0, .int .i64 0] 25) := ⟨_, rfl⟩
  have hs0 : w0.heap.size = w.heap.size + 1 := by rw [hw0]; simp
  have H0 : Hid (Below W.heap.size W w0 ∧ Below w.heap.size w w0 ∧ Boxed w0 w.heap.size #[.int .i64 0, .int .i64 0, .int .i64 0] 25) := by
    rw [hw0]
    exact ⟨bel.out.alloc hle _, (Below.refl _ _).alloc (Nat.le_refl _) _, Boxed.new _ _ _⟩
  have HW0 : Hid (w0 = _) := hw0
  have HS0 : Hid (w0.heap.size = _) := hs0
  clear hw0 hs0
  go_enter Tryd.func10, Tryd.ntmps10
  go_wp2_with fail
  rw [← HW0.out]
  refine (drawNew hc _ H0.out.1).mono ?_
  rintro e w1 ⟨rfl, c1, b1⟩
  rw [HS0.out] at c1 b1 ⊢
  have H1 : Hid (Cur W (w.heap.size + 1) ac len cap w1 ∧ Below w.heap.size w w1 ∧ Boxed w1 w.heap.size #[.int .i64 0, .int .i64 0, .int .i64 0] 25 ∧ w.heap.size + 1 < w1.heap.size) := ⟨c1, H0.out.2.1.trans (b1.mono (by omega)), H0.out.2.2.below (by omega) b1, c1.lt⟩
  clear c1 b1 H0 HW0 HS0
  go_wp2_with fail
  refine (drawSteer hc _ H1.out.1).mono ?_
  rintro e w2 ⟨⟨v, rfl, l, hv, hdr⟩, c2, k2⟩
  have hv : v = .agg #[.int .i64 l.target, .int .i64 l.old, .int .i64 l.prob] := hv
  subst hv
  have X1 : Hid (DrO 25 W ac len cap w (w.heap.size + 1) w2.heap.size #[.int .i64 0, .int .i64 0, .int .i64 0] (w2.alloc (.cells #[.int .i64 0, .int .i64 0, .int .i64 0] 25)) ∧ Boxed (w2.alloc (.cells #[.int .i64 0, .int .i64 0, .int .i64 0] 25)) w.heap.size #[.int .i64 0, .int .i64 0, .int .i64 0] 25) := by
    have q1 := H1.out.2.1.size
    have q2 := k2.size
    have q3 := H1.out.1.lt
    have b2 : Below w.heap.size w w2 := bel_two bel.out c2.bel (by omega) fun k hk => (k2.block k (by omega) (by omega)).trans (H1.out.2.1.block k hk)
    exact ⟨⟨c2.alloc _, b2.alloc b2.size _, Boxed.new _ _ _, by omega, by omega, bel.out⟩, (boxKeep H1.out.2.2.1 (by omega) k2).more _⟩
  have X2 : Hid (DrO 25 W ac len cap w (w.heap.size + 1) w2.heap.size #[.int .i64 l.target, .int .i64 l.old, .int .i64 l.prob] ((w2.alloc (.cells #[.int .i64 0, .int .i64 0, .int .i64 0] 25)).setRow w2.heap.size #[.int .i64 l.target, .int .i64 l.old, .int .i64 l.prob]) ∧ Boxed ((w2.alloc (.cells #[.int .i64 0, .int .i64 0, .int .i64 0] 25)).setRow w2.heap.size #[.int .i64 l.target, .int .i64 l.old, .int .i64 l.prob]) w.heap.size #[.int .i64 0, .int .i64 0, .int .i64 0] 25) := by
    refine ⟨X1.out.1.fill _, (setRow_other _ _ _ _ ?_).trans X1.out.2⟩
    have := X1.out.1.hB
    have := X1.out.1.hc
    omega
  have Hdr : Hid l.drawn := hdr
  clear c2 k2 hdr H1
  go_wp2_with (refine wpList_store_row rfl 25 (.tmp 5) (.tmp 9) rfl w2.heap.size #[.int .i64 l.target, .int .i64 l.old, .int .i64 l.prob] rfl rfl _ _ X1.out.1.out (by kernel_rfl) rfl (srOnes _ _ _) ?_)
  clear X1
  generalize (w2.alloc (.cells #[.int .i64 0, .int .i64 0, .int .i64 0] 25)).setRow w2.heap.size #[.int .i64 l.target, .int .i64 l.old, .int .i64 l.prob] = w3 at X2 ⊢
  generalize w2.heap.size = B at X2 ⊢
  refine (drawOnce hc 6 (by omega) _ X2.out.1.cur).mono ?_
  rintro e w4 ⟨⟨bo, rfl⟩, c4, k4⟩
  have X4 : Hid ((DrO 25 W ac len cap w (w.heap.size + 1) B #[.int .i64 l.target, .int .i64 l.old, .int .i64 l.prob] w4) ∧ Boxed w4 w.heap.size #[.int .i64 0, .int .i64 0, .int .i64 0] 25) := ⟨X2.out.1.draw c4 k4, boxKeep X2.out.2 (by have := X2.out.1.hc; omega) k4⟩
  clear c4 k4 X2
  cases bo
  · go_wp2_with fail
    refine region_lists (G := Unit) (by kernel_rfl) (by kernel_rfl) (by kernel_rfl) (fun _ => 99) (fun (L : Nat → Bool) (_ : Unit) (x : World) => (DrO 25 W ac len cap w (w.heap.size + 1) B #[.int .i64 l.target, .int .i64 l.old, .int .i64 l.prob] x) ∧ (∃ zs : Array Value, zs.size = 3 ∧ Boxed x w.heap.size zs 25) ∧ (L 3 = true → Boxed x w.heap.size #[.int .i64 l.target, .int .i64 l.old, .int .i64 l.prob] 25)) (fun i _ x _ x' => ∀ k, w.heap.size + 1 < k → k < x.heap.size → x'.heap[k]? = x.heap[k]?) (fun i y x v => ([fun _ _ v => v = .agg #[.int .i64 l.target, .int .i64 l.old, .int .i64 l.prob], fun _ _ v => v = .pointer (some ⟨w.heap.size + 1, 0, none⟩), fun _ _ v => ∃ z : Int, v = .int .i64 z ∧ (-1 ≤ z ∧ z ≤ 1048576), fun _ _ _ => True, fun _ _ v => ∃ z : Int, v = .int .i64 z ∧ (-1 ≤ z ∧ z ≤ 1048576)] : List (Unit → World → Value → Prop)).getD i (fun _ _ _ => True) y x v) ?hR () ?h0 ?step ?last
    case hR =>
      intro i j y y' x x' v hi hj hne hu h1 h2 hp hr
      have hj' : j < 5 := hj
      have hcases : j = 0 ∨ j = 1 ∨ j = 2 ∨ j = 3 ∨ j = 4 := by omega
      rcases hcases with rfl | rfl | rfl | rfl | rfl
      · exact hp
      · exact hp
      · exact hp
      · exact hp
      · exact hp
    case h0 => exact ⟨X4.out.1.below (Below.refl _ _).drew, ⟨_, rfl, X4.out.2⟩, fun h => by cases h⟩
    case step =>
      intro i o hi ho L a' y x hLi hwt hre hkp hI hp
      have sB : a'.tmps.getD 5 undef = .pointer (some ⟨B, 0, none⟩) := hkp.slot 5 (by kernel_rfl)
      have sC : a'.tmps.getD 4 undef = .pointer (some ⟨w.heap.size + 1, 0, none⟩) := hkp.slot 4 (by kernel_rfl)
      have s2 : a'.tmps.getD 2 undef = .pointer (some ⟨w.heap.size, 0, none⟩) := hkp.slot 2 (by kernel_rfl)
      have hD := hI.1
      have hcc := hD.hc
      have hi' : i < 5 := hi
      have hcases : i = 0 ∨ i = 1 ∨ i = 2 ∨ i = 3 ∨ i = 4 := by omega
      rcases hcases with rfl | rfl | rfl | rfl | rfl
      · cases ho
        exact ⟨wanted_none rfl, wp_load_row 25 (.tmp 5) rfl B sB _ _ _ _ hD.out Tryd.underlying25 rfl (by kernel_rfl) ⟨_, (), rfl, fun _ _ _ => rfl, hI, fun u hu => hu (fun h => by cases h)⟩⟩
      · cases ho
        exact ⟨wanted_none rfl, op_move 4 rfl ⟨_, (), rfl, fun _ _ _ => rfl, hI, fun u hu => (hu (fun h => by cases h)).trans sC⟩⟩
      · cases ho
        have q0 : a'.tmps[19]?.getD undef = .pointer (some ⟨w.heap.size + 1, 0, none⟩) := by have h2 : a'.tmps.getD 19 undef = .pointer (some ⟨w.heap.size + 1, 0, none⟩) := hp 1 (of_decide_eq_true (by kernel_rfl)) (.inr (by decide)); simpa using h2
        refine ⟨wanted_none rfl, op_callB (by simp [execOp, resolve, Deferred.ofValue, invoke, Act.eval, q0]) (drawBelow hc 1048576 (by omega) x hD.cur) ?_⟩
        rintro e z ⟨⟨v, rfl, v0, v1⟩, ci, ki⟩
        exact ⟨_, rfl, _, (), rfl, fun k h1 h2 => ki.block k (by omega) h2, ⟨hD.draw ci ki, (hI.2.1.imp fun zs h => ⟨h.1, boxKeep h.2 (by omega) ki⟩), fun h => boxKeep (hI.2.2 h) (by omega) ki⟩, fun u hu => ⟨v, hu (fun h => by cases h), by omega⟩⟩
      · cases ho
        have e1 : a'.tmps.getD 18 undef = .agg #[.int .i64 l.target, .int .i64 l.old, .int .i64 l.prob] := hp 0 (of_decide_eq_true (by kernel_rfl)) (.inr (by decide))
        obtain ⟨zs, hz0, hz⟩ := hI.2.1
        exact ⟨wanted_none rfl, wp_store_row 25 (.tmp 2) (.tmp 18) rfl w.heap.size #[.int .i64 l.target, .int .i64 l.old, .int .i64 l.prob] (by simpa [Act.eval] using s2) (by simpa [Act.eval] using e1) _ _ hz (by kernel_rfl) hz0 (by simp [Value.oneCell']) ⟨_, (), rfl, fun k h1 _ => setRow_other _ _ _ _ (by omega), ⟨hD.row (Nat.le_refl _) (by omega) _, ⟨_, rfl, setRow_heap _ _ _ _ _ _ hz⟩, fun _ => setRow_heap _ _ _ _ _ _ hz⟩, fun _ _ => trivial⟩⟩
      · cases ho
        obtain ⟨z, e1, e2⟩ := hp 2 (of_decide_eq_true (by kernel_rfl)) (.inr (by decide))
        have e1 : a'.tmps.getD 20 undef = .int .i64 z := e1
        exact ⟨wanted_none rfl, opAssign 20 rfl ⟨_, (), rfl, fun _ _ _ => rfl, hI, fun u hu => ⟨z, (hu (fun h => by cases h)).trans e1, e2⟩⟩⟩
    case last =>
    intro L a' y x hall hkp hI hp
    obtain ⟨z, hz, hzb⟩ := hp 4 (by decide) (by decide)
    have e3 : a'.tmps.getD 3 undef = .int .i64 z := hz
    have s2 : a'.tmps.getD 2 undef = .pointer (some ⟨w.heap.size, 0, none⟩) := hkp.slot 2 (by kernel_rfl)
    have b1 := hI.2.2 (hall 3 (by decide))
    have hd : a'.defers = [] := hkp.defers
    have Fin : Hid (_ ∧ _) := And.intro (results_row_tmp Tryd.results10 a'.tmps x w.heap.size _ _ _ _ (.int .i64 z) s2 e3 b1 Tryd.underlying25 rfl (by kernel_rfl)) hd
    have Bl : Hid (Below w.heap.size w x) := hI.1.bel
    have HZ : Hid _ := hzb
    clear hp hkp hI hz e3 s2 b1 hall hd hzb
    go_wp2
    exact bodyPost_ret Fin.out.1 Fin.out.2 ⟨⟨l, z, rfl, Hdr.out, HZ.out⟩, Bl.out⟩
  · go_wp2_with fail
    refine region_lists (G := Unit) (by kernel_rfl) (by kernel_rfl) (by kernel_rfl) (fun _ => 99) (fun (L : Nat → Bool) (_ : Unit) (x : World) => (DrO 25 W ac len cap w (w.heap.size + 1) B #[.int .i64 l.target, .int .i64 l.old, .int .i64 l.prob] x) ∧ (∃ zs : Array Value, zs.size = 3 ∧ Boxed x w.heap.size zs 25) ∧ (L 6 = true → Boxed x w.heap.size #[.int .i64 l.target, .int .i64 l.old, .int .i64 l.prob] 25)) (fun i _ x _ x' => ∀ k, w.heap.size + 1 < k → k < x.heap.size → x'.heap[k]? = x.heap[k]?) (fun i y x v => ([fun _ _ v => v = .agg #[.int .i64 l.target, .int .i64 l.old, .int .i64 l.prob], fun _ x v => ∃ n1, v = .slice (some ⟨n1, 0, none⟩) 4 4 ∧ Boxed x n1 #[.int .i64 (-1), .int .i64 (0), .int .i64 (1048575), .int .i64 (1048576)] 2 ∧ w.heap.size + 1 < n1, fun _ _ v => v = .pointer (some ⟨w.heap.size + 1, 0, none⟩), fun _ _ v => ∃ j : Nat, v = .int .i64 (j : Int) ∧ j < 4, fun _ x v => ∃ (n1 : Nat) (j : Nat), v = .pointer (some ⟨n1, j, none⟩) ∧ Boxed x n1 #[.int .i64 (-1), .int .i64 (0), .int .i64 (1048575), .int .i64 (1048576)] 2 ∧ w.heap.size + 1 < n1 ∧ j < 4, fun _ _ v => ∃ z : Int, v = .int .i64 z ∧ (-1 ≤ z ∧ z ≤ 1048576), fun _ _ _ => True, fun _ _ v => ∃ z : Int, v = .int .i64 z ∧ (-1 ≤ z ∧ z ≤ 1048576)] : List (Unit → World → Value → Prop)).getD i (fun _ _ _ => True) y x v) ?hR () ?h0 ?step ?last
    case hR =>
      intro i j y y' x x' v hi hj hne hu h1 h2 hp hr
      have hj' : j < 8 := hj
      have hcases : j = 0 ∨ j = 1 ∨ j = 2 ∨ j = 3 ∨ j = 4 ∨ j = 5 ∨ j = 6 ∨ j = 7 := by omega
      rcases hcases with rfl | rfl | rfl | rfl | rfl | rfl | rfl | rfl
      · exact hp
      · obtain ⟨n1, e, hb, hl⟩ := hp
        exact ⟨n1, e, (hr n1 hl hb.under).trans hb, hl⟩
      · exact hp
      · exact hp
      · obtain ⟨n1, j, e, hb, hl, hj⟩ := hp
        exact ⟨n1, j, e, (hr n1 hl hb.under).trans hb, hl, hj⟩
      · exact hp
      · exact hp
      · exact hp
    case h0 => exact ⟨X4.out.1.below (Below.refl _ _).drew, ⟨_, rfl, X4.out.2⟩, fun h => by cases h⟩
    case step =>
      intro i o hi ho L a' y x hLi hwt hre hkp hI hp
      have sB : a'.tmps.getD 5 undef = .pointer (some ⟨B, 0, none⟩) := hkp.slot 5 (by kernel_rfl)
      have sC : a'.tmps.getD 4 undef = .pointer (some ⟨w.heap.size + 1, 0, none⟩) := hkp.slot 4 (by kernel_rfl)
      have s2 : a'.tmps.getD 2 undef = .pointer (some ⟨w.heap.size, 0, none⟩) := hkp.slot 2 (by kernel_rfl)
      have hD := hI.1
      have hcc := hD.hc
      have hi' : i < 8 := hi
      have hcases : i = 0 ∨ i = 1 ∨ i = 2 ∨ i = 3 ∨ i = 4 ∨ i = 5 ∨ i = 6 ∨ i = 7 := by omega
      rcases hcases with rfl | rfl | rfl | rfl | rfl | rfl | rfl | rfl
      · cases ho
        exact ⟨wanted_none rfl, wp_load_row 25 (.tmp 5) rfl B sB _ _ _ _ hD.out Tryd.underlying25 rfl (by kernel_rfl) ⟨_, (), rfl, fun _ _ _ => rfl, hI, fun u hu => hu (fun h => by cases h)⟩⟩
      · cases ho
        refine ⟨wanted_none rfl, Oper.wp_mono (K := fun a'' w'' => a'' = a'.put (some 13) (.slice (some ⟨x.heap.size, 0, none⟩) 4 4) ∧ w'' = x.alloc (.cells #[.int .i64 (-1), .int .i64 (0), .int .i64 (1048575), .int .i64 (1048576)] 2)) ?_ ?_⟩
        · rintro _ _ ⟨rfl, rfl⟩
          have bl : Below x.heap.size x (x.alloc (.cells #[.int .i64 (-1), .int .i64 (0), .int .i64 (1048575), .int .i64 (1048576)] 2)) := (Below.refl _ _).alloc (Nat.le_refl _) _
          exact ⟨_, (), rfl, fun k _ h2 => bl.block k h2, ⟨hD.below bl, (hI.2.1.imp fun zs h => ⟨h.1, Boxed.more h.2 _⟩), fun h => Boxed.more (hI.2.2 h) _⟩, fun u hu => ⟨x.heap.size, hu (fun h => by cases h), Boxed.new _ _ _, hD.cur.lt⟩⟩
        · unfold Oper.wp
          simp [go_sem]
      · cases ho
        exact ⟨wanted_none rfl, op_move 4 rfl ⟨_, (), rfl, fun _ _ _ => rfl, hI, fun u hu => (hu (fun h => by cases h)).trans sC⟩⟩
      · cases ho
        have q0 : a'.tmps[14]?.getD undef = .pointer (some ⟨w.heap.size + 1, 0, none⟩) := by have h2 : a'.tmps.getD 14 undef = .pointer (some ⟨w.heap.size + 1, 0, none⟩) := hp 2 (of_decide_eq_true (by kernel_rfl)) (.inr (by decide)); simpa using h2
        refine ⟨wanted_none rfl, op_callB (by simp [execOp, resolve, Deferred.ofValue, invoke, Act.eval, q0]) (drawBelow hc 4 (by omega) x hD.cur) ?_⟩
        rintro e z ⟨⟨v, rfl, v0, v1⟩, ci, ki⟩
        obtain ⟨j, rfl⟩ := Int.eq_ofNat_of_zero_le v0
        exact ⟨_, rfl, _, (), rfl, fun k h1 h2 => ki.block k (by omega) h2, ⟨hD.draw ci ki, (hI.2.1.imp fun zs h => ⟨h.1, boxKeep h.2 (by omega) ki⟩), fun h => boxKeep (hI.2.2 h) (by omega) ki⟩, fun u hu => ⟨j, hu (fun h => by cases h), by omega⟩⟩
      · cases ho
        obtain ⟨n1, e1, hb1, hl1⟩ := hp 1 (of_decide_eq_true (by kernel_rfl)) (.inr (by decide))
        obtain ⟨j, e2, hj2⟩ := hp 3 (of_decide_eq_true (by kernel_rfl)) (.inr (by decide))
        have q1 : a'.tmps[13]?.getD undef = .slice (some ⟨n1, 0, none⟩) 4 4 := by have h2 : a'.tmps.getD 13 undef = .slice (some ⟨n1, 0, none⟩) 4 4 := e1; simpa using h2
        have q2 : a'.tmps[15]?.getD undef = .int .i64 (j : Int) := by have h2 : a'.tmps.getD 15 undef = .int .i64 (j : Int) := e2; simpa using h2
        refine ⟨wanted_none rfl, Oper.wp_mono (K := fun a'' w'' => a'' = a'.put (some 16) (.pointer (some ⟨n1, j, none⟩)) ∧ w'' = x) ?_ ?_⟩
        · rintro _ _ ⟨rfl, rfl⟩
          exact ⟨_, (), rfl, fun _ _ _ => rfl, hI, fun u hu => ⟨n1, j, hu (fun h => by cases h), hb1, hl1, hj2⟩⟩
        · have hj4 : (j : Int) < 4 := by omega
          unfold Oper.wp
          simp [go_sem, q1, q2, hj4]
      · cases ho
        obtain ⟨n1, j, e1, hb1, hl1, hj1⟩ := hp 4 (of_decide_eq_true (by kernel_rfl)) (.inr (by decide))
        have q1 : a'.tmps[16]?.getD undef = .pointer (some ⟨n1, j, none⟩) := by have h2 : a'.tmps.getD 16 undef = .pointer (some ⟨n1, j, none⟩) := e1; simpa using h2
        obtain ⟨z, hz, hz2⟩ : ∃ z : Int, x.cell? ⟨n1, j, none⟩ = some (.int .i64 z) ∧ (-1 ≤ z ∧ z ≤ 1048576) := by
          have hj' : j = 0 ∨ j = 1 ∨ j = 2 ∨ j = 3 := by omega
          rcases hj' with rfl | rfl | rfl | rfl
          · exact ⟨_, hb1.cell 0 rfl, by omega⟩
          · exact ⟨_, hb1.cell 1 rfl, by omega⟩
          · exact ⟨_, hb1.cell 2 rfl, by omega⟩
          · exact ⟨_, hb1.cell 3 rfl, by omega⟩
        refine ⟨wanted_none rfl, Oper.wp_mono (K := fun a'' w'' => a'' = a'.put (some 17) (.int .i64 z) ∧ w'' = x) ?_ ?_⟩
        · rintro _ _ ⟨rfl, rfl⟩
          exact ⟨_, (), rfl, fun _ _ _ => rfl, hI, fun u hu => ⟨z, hu (fun h => by cases h), hz2⟩⟩
        · unfold Oper.wp
          simp [go_sem, q1, hz]
      · cases ho
        have e1 : a'.tmps.getD 12 undef = .agg #[.int .i64 l.target, .int .i64 l.old, .int .i64 l.prob] := hp 0 (of_decide_eq_true (by kernel_rfl)) (.inr (by decide))
        obtain ⟨zs, hz0, hz⟩ := hI.2.1
        exact ⟨wanted_none rfl, wp_store_row 25 (.tmp 2) (.tmp 12) rfl w.heap.size #[.int .i64 l.target, .int .i64 l.old, .int .i64 l.prob] (by simpa [Act.eval] using s2) (by simpa [Act.eval] using e1) _ _ hz (by kernel_rfl) hz0 (by simp [Value.oneCell']) ⟨_, (), rfl, fun k h1 _ => setRow_other _ _ _ _ (by omega), ⟨hD.row (Nat.le_refl _) (by omega) _, ⟨_, rfl, setRow_heap _ _ _ _ _ _ hz⟩, fun _ => setRow_heap _ _ _ _ _ _ hz⟩, fun _ _ => trivial⟩⟩
      · cases ho
        obtain ⟨z, e1, e2⟩ := hp 5 (of_decide_eq_true (by kernel_rfl)) (.inr (by decide))
        have e1 : a'.tmps.getD 17 undef = .int .i64 z := e1
        exact ⟨wanted_none rfl, opAssign 17 rfl ⟨_, (), rfl, fun _ _ _ => rfl, hI, fun u hu => ⟨z, (hu (fun h => by cases h)).trans e1, e2⟩⟩⟩
    case last =>
    intro L a' y x hall hkp hI hp
    obtain ⟨z, hz, hzb⟩ := hp 7 (by decide) (by decide)
    have e3 : a'.tmps.getD 3 undef = .int .i64 z := hz
    have s2 : a'.tmps.getD 2 undef = .pointer (some ⟨w.heap.size, 0, none⟩) := hkp.slot 2 (by kernel_rfl)
    have b1 := hI.2.2 (hall 6 (by decide))
    have hd : a'.defers = [] := hkp.defers
    have Fin : Hid (_ ∧ _) := And.intro (results_row_tmp Tryd.results10 a'.tmps x w.heap.size _ _ _ _ (.int .i64 z) s2 e3 b1 Tryd.underlying25 rfl (by kernel_rfl)) hd
    have Bl : Hid (Below w.heap.size w x) := hI.1.bel
    have HZ : Hid _ := hzb
    clear hp hkp hI hz e3 s2 b1 hall hd hzb
    go_wp2
    exact bodyPost_ret Fin.out.1 Fin.out.2 ⟨⟨l, z, rfl, Hdr.out, HZ.out⟩, Bl.out⟩
end Go.Proofs.YtemegnfefjcdaaaDoor
