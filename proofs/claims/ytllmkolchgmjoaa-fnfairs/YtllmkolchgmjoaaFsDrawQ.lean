/-
  The model's drawing of flows, one of them and a size (Queued). By the verifier, by program.
-/
import Derived.Test.YtllmkolchgmjoaaM8FsDrawB
namespace Go.Proofs.Ytllmkolchgmjoaa
open Go.RowKit

set_option maxHeartbeats 6400000 in
set_option maxRecDepth 100000 in
theorem dDrawQueued {W : World} {ac : Option Addr} {len cap : Nat} (hc : Hid (Code W ac len)) (w : World) (bel : Hid (Below W.heap.size W w)) :
    Calls Try.prog 17 #[.slice ac len cap] w fun e w' => (∃ v r host size, e = .returned (.tuple #[v, .int .i64 host, .int .i64 size]) ∧ FsIn w.heap.size w'.heap.size w' v r ∧ r.big ≤ 200 ∧ -1 ≤ host ∧ host ≤ 6) ∧ Below w.heap.size w w' := by
  have hle := bel.out.size
  obtain ⟨w0, hw0⟩ : ∃ w0, w0 = w.alloc (.cells #[.int .i64 0, .slice none 0 0] 26) := ⟨_, rfl⟩
  have hs0 : w0.heap.size = w.heap.size + 1 := by rw [hw0]; simp
  have H0 : Hid (Below W.heap.size W w0 ∧ Below w.heap.size w w0 ∧ Boxed w0 w.heap.size #[.int .i64 0, .slice none 0 0] 26) := by
    rw [hw0]
    exact ⟨bel.out.alloc hle _, (Below.refl _ _).alloc (Nat.le_refl _) _, Boxed.new _ _ _⟩
  have HW0 : Hid (w0 = _) := hw0
  have HS0 : Hid (w0.heap.size = _) := hs0
  clear hw0 hs0
  go_enter Try.func17, Try.ntmps17
  go_wp2_with fail
  rw [← HW0.out]
  refine (drawNew hc _ H0.out.1).mono ?_
  rintro e w1 ⟨rfl, c1, b1⟩
  rw [HS0.out] at c1 b1 ⊢
  have H1 : Hid (Cur W (w.heap.size + 1) ac len cap w1 ∧ Below w.heap.size w w1 ∧ Boxed w1 w.heap.size #[.int .i64 0, .slice none 0 0] 26 ∧ w.heap.size + 1 < w1.heap.size) := ⟨c1, H0.out.2.1.trans (b1.mono (by omega)), H0.out.2.2.below (by omega) b1, c1.lt⟩
  clear c1 b1 H0 HW0 HS0
  go_wp2_with fail
  refine (drawFair hc _ H1.out.1).mono ?_
  rintro e w2 ⟨⟨v, r, rfl, i2, hbig⟩, c2, k2⟩
  obtain ⟨p, q, ev⟩ : ∃ p q, v = .agg #[.int .i64 r.now, .slice p r.flows.length q] := by
    obtain ⟨p, q, e, _⟩ := i2
    exact ⟨p, q, e⟩
  subst ev
  have Hbig : Hid (r.big ≤ 200) := hbig
  have X2 : Hid (FsP W ac len cap w (w.heap.size + 1) w2.heap.size w1.heap.size w2.heap.size r.now p r.flows.length q r (w2.alloc (.cells #[.int .i64 r.now, .slice p r.flows.length q] 26)) ∧ Boxed (w2.alloc (.cells #[.int .i64 r.now, .slice p r.flows.length q] 26)) w.heap.size #[.int .i64 0, .slice none 0 0] 26) := by
    have q1 := H1.out.2.1.size
    have q2 := k2.size
    have q3 := H1.out.1.lt
    have b2 : Below w.heap.size w w2 := bel_two bel.out c2.bel (by omega) fun k hk => (k2.block k (by omega) (by omega)).trans (H1.out.2.1.block k hk)
    exact ⟨⟨⟨c2.alloc _, b2.alloc b2.size _, Boxed.new _ _ _, by omega, by omega, bel.out⟩, i2.below ((Below.refl _ _).alloc (Nat.le_refl _) _), q3, by simp⟩, (boxKeep H1.out.2.2.1 (by omega) k2).more _⟩
  generalize r.now = f at X2 ⊢
  generalize r.flows.length = n at X2 ⊢
  clear i2 c2 k2 hbig
  go_wp2_with fail
  generalize w2.alloc (.cells #[.int .i64 f, .slice p n q] 26) = w3 at X2 ⊢
  generalize w1.heap.size = b at X2
  obtain ⟨t, ht⟩ : ∃ t, t = w2.heap.size := ⟨_, rfl⟩
  have X3 : Hid (FsP W ac len cap w (w.heap.size + 1) w2.heap.size b t f p n q r w3 ∧ Boxed w3 w.heap.size #[.int .i64 0, .slice none 0 0] 26) := by rw [ht]; exact X2
  clear X2 ht H1
  generalize w2.heap.size = B at X3 ⊢
  refine (drawFrom hc (-1) 6 (by omega) (by omega) (by omega) _ X3.out.1.o.cur).mono ?_
  rintro e w4 ⟨⟨host, rfl, r0, r1⟩, c4, k4⟩
  have X4 : Hid (FsP W ac len cap w (w.heap.size + 1) B b t f p n q r w4 ∧ Boxed w4 w.heap.size #[.int .i64 0, .slice none 0 0] 26) := ⟨X3.out.1.draw c4 k4, boxKeep X3.out.2 (by have := X3.out.1.o.hc; omega) k4⟩
  have Hh : Hid (-1 ≤ host ∧ host ≤ 6) := ⟨r0, r1⟩
  clear c4 k4 X3 r0 r1
  go_wp2_with fail
  refine region_lists (G := Unit) (by kernel_rfl) (by kernel_rfl) (by kernel_rfl) (fun _ => 99) (fun (L : Nat → Bool) (_ : Unit) (x : World) => FsP W ac len cap w (w.heap.size + 1) B b t f p n q r x ∧ (∃ z0 z1, Boxed x w.heap.size #[z0, z1] 26) ∧ (L 7 = true → Boxed x w.heap.size #[.int .i64 f, .slice p n q] 26)) (fun _ _ x _ x' => ∀ k, k ≠ w.heap.size + 1 → k ≠ w.heap.size → k < x.heap.size → x'.heap[k]? = x.heap[k]?) (fun i y x v => ([fun _ _ v => v = .agg #[.int .i64 f, .slice p n q], fun _ _ v => v = .int .i64 host, fun _ x v => ∃ g, v = .slice (some ⟨g, 0, none⟩) 6 6 ∧ Boxed x g #[.int .i64 1, .int .i64 40, .int .i64 2000, .int .i64 0, .int .i64 2001, .int .i64 7] 2 ∧ g ≠ w.heap.size + 1 ∧ g ≠ w.heap.size, fun _ _ v => v = .pointer (some ⟨w.heap.size + 1, 0, none⟩), fun _ _ v => ∃ j : Nat, v = .int .i64 (j : Int) ∧ j < 6, fun _ x v => ∃ g j, v = .pointer (some ⟨g, j, none⟩) ∧ Boxed x g #[.int .i64 1, .int .i64 40, .int .i64 2000, .int .i64 0, .int .i64 2001, .int .i64 7] 2 ∧ (g ≠ w.heap.size + 1 ∧ g ≠ w.heap.size) ∧ j < 6, fun _ _ v => ∃ z : Int, v = .int .i64 z, fun _ _ _ => True, fun _ _ v => v = .int .i64 host, fun _ _ v => ∃ z : Int, v = .int .i64 z] : List (Unit → World → Value → Prop)).getD i (fun _ _ _ => True) y x v) ?hR () ?h0 ?step ?last
  case hR =>
    intro i j y y' x x' v hi hj hne hu h1 h2 hp hr
    have hj' : j < 10 := hj
    have hcases : j = 0 ∨ j = 1 ∨ j = 2 ∨ j = 3 ∨ j = 4 ∨ j = 5 ∨ j = 6 ∨ j = 7 ∨ j = 8 ∨ j = 9 := by omega
    rcases hcases with rfl | rfl | rfl | rfl | rfl | rfl | rfl | rfl | rfl | rfl
    · exact hp
    · exact hp
    · obtain ⟨g, e1, b1, l1, l2⟩ := hp
      exact ⟨g, e1, (hr g l1 l2 b1.under).trans b1, l1, l2⟩
    · exact hp
    · exact hp
    · obtain ⟨g, j0, e1, b1, l1, l2⟩ := hp
      exact ⟨g, j0, e1, (hr g l1.1 l1.2 b1.under).trans b1, l1, l2⟩
    · exact hp
    · exact hp
    · exact hp
    · exact hp
  case h0 => exact ⟨X4.out.1.below (Below.refl _ _).drew, ⟨_, _, X4.out.2⟩, fun h => by cases h⟩
  case step =>
    intro i o hi ho L a' y x hLi hwt hre hkp hI hp
    have sB : a'.tmps.getD 6 undef = .pointer (some ⟨B, 0, none⟩) := hkp.slot 6 (by kernel_rfl)
    have sC : a'.tmps.getD 5 undef = .pointer (some ⟨w.heap.size + 1, 0, none⟩) := hkp.slot 5 (by kernel_rfl)
    have s2 : a'.tmps.getD 2 undef = .pointer (some ⟨w.heap.size, 0, none⟩) := hkp.slot 2 (by kernel_rfl)
    have s7 : a'.tmps.getD 7 undef = .int .i64 host := hkp.slot 7 (by kernel_rfl)
    have hD := hI.1
    have hcc := hD.o.hc
    have hi' : i < 10 := hi
    have hcases : i = 0 ∨ i = 1 ∨ i = 2 ∨ i = 3 ∨ i = 4 ∨ i = 5 ∨ i = 6 ∨ i = 7 ∨ i = 8 ∨ i = 9 := by omega
    rcases hcases with rfl | rfl | rfl | rfl | rfl | rfl | rfl | rfl | rfl | rfl
    · cases ho
      exact ⟨wanted_none rfl, wp_load_row 26 (.tmp 6) rfl B sB _ _ _ _ hD.o.out Try.underlying26 rfl (by kernel_rfl) ⟨_, (), rfl, (fun _ _ _ _ => rfl), hI, fun u hu => hu (fun h => by cases h)⟩⟩
    · cases ho
      exact ⟨wanted_none rfl, op_move 7 rfl ⟨_, (), rfl, (fun _ _ _ _ => rfl), hI, fun u hu => (hu (fun h => by cases h)).trans s7⟩⟩
    · cases ho
      refine ⟨wanted_none rfl, Oper.wp_mono (K := fun a'' w'' => a'' = a'.put (some 16) (.slice (some ⟨x.heap.size, 0, none⟩) 6 6) ∧ w'' = x.alloc (.cells #[.int .i64 1, .int .i64 40, .int .i64 2000, .int .i64 0, .int .i64 2001, .int .i64 7] 2)) ?_ ?_⟩
      · rintro _ _ ⟨rfl, rfl⟩
        have bl : Below x.heap.size x (x.alloc (.cells #[.int .i64 1, .int .i64 40, .int .i64 2000, .int .i64 0, .int .i64 2001, .int .i64 7] 2)) := (Below.refl _ _).alloc (Nat.le_refl _) _
        have hcl := hD.o.cur.lt
        exact ⟨_, (), rfl, (fun k _ _ hk => Below.heap_alloc _ _ _ hk), ⟨hD.below bl, hI.2.1.imp fun z0 h => h.imp fun z1 h => h.more _, fun h => (hI.2.2 (by have h' : (if (7 : Nat) = 2 then true else L 7) = true := h; simpa using h')).more _⟩, fun u hu => ⟨x.heap.size, hu (fun h => by cases h), Boxed.new _ _ _, by omega, by omega⟩⟩
      · unfold Oper.wp
        simp [go_sem]
    · cases ho
      exact ⟨wanted_none rfl, op_move 5 rfl ⟨_, (), rfl, (fun _ _ _ _ => rfl), hI, fun u hu => (hu (fun h => by cases h)).trans sC⟩⟩
    · cases ho
      have q0 : a'.tmps[17]?.getD undef = .pointer (some ⟨w.heap.size + 1, 0, none⟩) := by have h2 : a'.tmps.getD 17 undef = .pointer (some ⟨w.heap.size + 1, 0, none⟩) := hp 3 (of_decide_eq_true (by kernel_rfl)) (.inr (by decide)); simpa using h2
      refine ⟨wanted_none rfl, op_callB (by simp [execOp, resolve, Deferred.ofValue, invoke, Act.eval, q0]) (drawBelow hc 6 (by omega) x hD.o.cur) ?_⟩
      rintro e z ⟨⟨v, rfl, v0, v1⟩, ci, ki⟩
      obtain ⟨j3, rfl⟩ := Int.eq_ofNat_of_zero_le v0
      exact ⟨_, rfl, _, (), rfl, (fun k k1 _ k2 => ki.block k k1 k2), ⟨hD.draw ci ki, (hI.2.1.imp fun z0 h => h.imp fun z1 h => boxKeep h (by omega) ki), fun h => boxKeep (hI.2.2 (by have h' : (if (7 : Nat) = 4 then true else L 7) = true := h; simpa using h')) (by omega) ki⟩, fun u hu => ⟨j3, hu (fun h => by cases h), by omega⟩⟩
    · cases ho
      obtain ⟨n1, e1, hb1, hl1, hl2⟩ := hp 2 (of_decide_eq_true (by kernel_rfl)) (.inr (by decide))
      obtain ⟨j3, e2, hj2⟩ := hp 4 (of_decide_eq_true (by kernel_rfl)) (.inr (by decide))
      have q1 : a'.tmps[16]?.getD undef = .slice (some ⟨n1, 0, none⟩) 6 6 := by have h2 : a'.tmps.getD 16 undef = .slice (some ⟨n1, 0, none⟩) 6 6 := e1; simpa using h2
      have q2 : a'.tmps[18]?.getD undef = .int .i64 (j3 : Int) := by have h2 : a'.tmps.getD 18 undef = .int .i64 (j3 : Int) := e2; simpa using h2
      refine ⟨wanted_none rfl, Oper.wp_mono (K := fun a'' w'' => a'' = a'.put (some 19) (.pointer (some ⟨n1, j3, none⟩)) ∧ w'' = x) ?_ ?_⟩
      · rintro _ _ ⟨rfl, rfl⟩
        exact ⟨_, (), rfl, (fun _ _ _ _ => rfl), ⟨hI.1, hI.2.1, fun h => hI.2.2 (by have h' : (if (7 : Nat) = 5 then true else L 7) = true := h; simpa using h')⟩, fun u hu => ⟨n1, j3, hu (fun h => by cases h), hb1, ⟨hl1, hl2⟩, hj2⟩⟩
      · have hj4 : (j3 : Int) < 6 := by omega
        unfold Oper.wp
        simp [go_sem, q1, q2, hj4]
    · cases ho
      obtain ⟨n1, j3, e1, hb1, hl1, hj1⟩ := hp 5 (of_decide_eq_true (by kernel_rfl)) (.inr (by decide))
      have q1 : a'.tmps[19]?.getD undef = .pointer (some ⟨n1, j3, none⟩) := by have h2 : a'.tmps.getD 19 undef = .pointer (some ⟨n1, j3, none⟩) := e1; simpa using h2
      obtain ⟨z, hz⟩ : ∃ z : Int, x.cell? ⟨n1, j3, none⟩ = some (.int .i64 z) := by
        have hj' : j3 = 0 ∨ j3 = 1 ∨ j3 = 2 ∨ j3 = 3 ∨ j3 = 4 ∨ j3 = 5 := by omega
        rcases hj' with rfl | rfl | rfl | rfl | rfl | rfl
        · exact ⟨_, hb1.cell 0 rfl⟩
        · exact ⟨_, hb1.cell 1 rfl⟩
        · exact ⟨_, hb1.cell 2 rfl⟩
        · exact ⟨_, hb1.cell 3 rfl⟩
        · exact ⟨_, hb1.cell 4 rfl⟩
        · exact ⟨_, hb1.cell 5 rfl⟩
      refine ⟨wanted_none rfl, Oper.wp_mono (K := fun a'' w'' => a'' = a'.put (some 20) (.int .i64 z) ∧ w'' = x) ?_ ?_⟩
      · rintro _ _ ⟨rfl, rfl⟩
        exact ⟨_, (), rfl, (fun _ _ _ _ => rfl), ⟨hI.1, hI.2.1, fun h => hI.2.2 (by have h' : (if (7 : Nat) = 6 then true else L 7) = true := h; simpa using h')⟩, fun u hu => ⟨z, hu (fun h => by cases h)⟩⟩
      · unfold Oper.wp
        simp [go_sem, q1, hz]
    · cases ho
      have e1 : a'.tmps.getD 14 undef = .agg #[.int .i64 f, .slice p n q] := hp 0 (of_decide_eq_true (by kernel_rfl)) (.inr (by decide))
      obtain ⟨z0, z1, hz⟩ := hI.2.1
      exact ⟨wanted_none rfl, wp_store_row 26 (.tmp 2) (.tmp 14) rfl w.heap.size #[.int .i64 f, .slice p n q] (by simpa [Act.eval] using s2) (by simpa [Act.eval] using e1) _ _ hz (by kernel_rfl) rfl (by simp [Value.oneCell']) ⟨_, (), rfl, (fun k _ k2 _ => setRow_other _ _ _ _ k2), ⟨hD.row (Nat.le_refl _) (by omega) _, ⟨_, _, setRow_heap _ _ _ _ _ _ hz⟩, fun _ => setRow_heap _ _ _ _ _ _ hz⟩, fun _ _ => trivial⟩⟩
    · cases ho
      have e1 : a'.tmps.getD 15 undef = .int .i64 host := hp 1 (of_decide_eq_true (by kernel_rfl)) (.inr (by decide))
      exact ⟨wanted_none rfl, opAssign 15 rfl ⟨_, (), rfl, (fun _ _ _ _ => rfl), hI, fun u hu => (hu (fun h => by cases h)).trans e1⟩⟩
    · cases ho
      obtain ⟨z, e1⟩ := hp 6 (of_decide_eq_true (by kernel_rfl)) (.inr (by decide))
      have e1 : a'.tmps.getD 20 undef = .int .i64 z := e1
      exact ⟨wanted_none rfl, opAssign 20 rfl ⟨_, (), rfl, (fun _ _ _ _ => rfl), hI, fun u hu => ⟨_, (hu (fun h => by cases h)).trans e1⟩⟩⟩
  case last =>
  intro L a' y x hall hkp hI hp
  obtain ⟨z, hz⟩ := hp 9 (by decide) (by decide)
  have e3 : a'.tmps.getD 4 undef = .int .i64 z := hz
  have s2 : a'.tmps.getD 2 undef = .pointer (some ⟨w.heap.size, 0, none⟩) := hkp.slot 2 (by kernel_rfl)
  have b1 := hI.2.2 (hall 7 (by decide))
  have hd : a'.defers = [] := hkp.defers
  have e4 : a'.tmps.getD 3 undef = .int .i64 host := hp 8 (by decide) (by decide)
  have M : FsIn w.heap.size x.heap.size x (.agg #[.int .i64 f, .slice p n q]) r := hI.1.mem.wide (by have h1 := hI.1.lo; have h2 := hI.1.o.hc; omega) hI.1.up (Nat.le_refl _)
  have Fin : Hid (_ ∧ _) := And.intro (results_row_tmp2 Try.results17 a'.tmps x w.heap.size _ _ _ _ (.int .i64 host) (.int .i64 z) s2 e4 e3 b1 Try.underlying26 rfl (by kernel_rfl)) hd
  have Bl : Hid (Below w.heap.size w x) := hI.1.o.bel
  have HM : Hid _ := M
  clear hp hkp hI hz e3 s2 b1 hall hd M e4
  go_wp2
  exact bodyPost_ret Fin.out.1 Fin.out.2 ⟨⟨_, r, host, z, rfl, HM.out, Hbig.out, Hh.out⟩, Bl.out⟩

end Go.Proofs.Ytllmkolchgmjoaa
