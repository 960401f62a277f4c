import Derived.Test.YtkocbfikcjgigaaGreatM2DrawRec
import Derived.Test.YtkocbfikcjgigaaGreatM0DuOrd
import Derived.Test.YtkocbfikcjgigaaGreatM6WhCopyS
import Derived.Test.YtkocbfikcjgigaaGreatOpStep
import Derived.Test.YtkocbfikcjgigaaGreatM9RegList
import Derived.Test.YtkocbfikcjgigaaGreatM8RegGuard
import Derived.Deep.DeepCutAuto
import Derived.Test.YtkocbfikcjgigaaGreatM5WhFn
import Derived.Test.YtkocbfikcjgigaaGreatM4DzGrow
/-
  The model's drawing of a due. By the verifier, by program.
-/
namespace Go.Proofs.YtkocbfikcjgigaaGreat
open Go.RowKit

/-- A table of numbers, whatever they are. -/
def TabAt (x : World) (g n : Nat) : Prop := g < x.heap.size ∧ ∀ k, k < n → ∃ z : Int, x.cell? ⟨g, k, none⟩ = some (.int .i64 z)
theorem TabAt.new (x : World) (zs : List Int) (t : TypeId) : TabAt (x.alloc (.cells (zs.map (Value.int .i64)).toArray t)) x.heap.size zs.length := by
  refine ⟨by simp, fun k hk => ⟨zs[k], ?_⟩⟩
  exact (Boxed.new x _ t).cell k (by simp [hk])
theorem TabAt.keep {x x' : World} {g n bc : Nat} (h : TabAt x g n) (hg : g ≠ bc) (k : Keep bc x x') : TabAt x' g n :=
  ⟨Nat.lt_of_lt_of_le h.1 k.size, fun j hj => by
    obtain ⟨z, e⟩ := h.2 j hj
    exact ⟨z, by rw [k.cell (p := ⟨g, j, none⟩) hg h.1]; exact e⟩⟩
theorem TabAt.below {x x' : World} {g n : Nat} (h : TabAt x g n) (q : Below x.heap.size x x') : TabAt x' g n :=
  ⟨Nat.lt_of_lt_of_le h.1 q.size, fun j hj => by
    obtain ⟨z, e⟩ := h.2 j hj
    exact ⟨z, by rw [q.cell (p := ⟨g, j, none⟩) h.1]; exact e⟩⟩
theorem duOnes (a b : Int) : (#[Value.int .i64 a, .int .i64 b] : Array Value).all (·.oneCell') = true := by simp [Value.oneCell']

/-- The record that is drawn, filled anew. -/
theorem DrX.fillB {t : TypeId} {zs : Array Value} {W : World} {bc : Nat} {ac : Option Addr} {len cap : Nat} {w : World} {A B : Nat} {cs : Array Value} {wr : World} (h : DrX t zs W bc ac len cap w A B cs wr) (ds : Array Value) : DrX t zs W bc ac len cap w A B ds (wr.setRow B ds) := by
  have g0 := h.lo
  have g1 := h.lt
  have g2 := h.bl
  have g3 := h.cur.lo
  have o : ∀ k, k ≠ B → (wr.setRow B ds).heap[k]? = wr.heap[k]? := fun k hk => setRow_other _ _ _ _ hk
  refine ⟨setRow_heap _ _ _ _ _ _ h.rt, (o A (by omega)).trans h.res, h.cur.other (B := B) (by omega) o (below_setRow (Below.refl _ _) (by omega) _), ?_, h.lo, h.lt, h.bl⟩
  exact ⟨by rw [size_setRow]; exact h.kp.size, fun k q1 q2 => (o k (by omega)).trans (h.kp.block k q1 q2)⟩

set_option maxHeartbeats 6400000 in
set_option maxRecDepth 100000 in
theorem drawDue {W : World} {bc : Nat} {a : Option Addr} {len cap : Nat} (hc : Hid (Code W a len)) (w : World) (cur : Hid (Cur W bc a len cap w)) :
    Calls Tryz.prog 30 #[.pointer (some ⟨bc, 0, none⟩)] w fun e w' => (∃ v, e = .returned v ∧ ∃ l : Du, v = l.val) ∧ Cur W bc a len cap w' ∧ Keep bc w w' := by
  have hbc := cur.out.lt
  go_enter Tryz.func30, Tryz.ntmps30
  go_wp2_with fail
  refine (drawBelow hc 40 (by omega) _ (cur.out.alloc _)).mono ?_
  rintro e w1 ⟨⟨x0, rfl, x00, x01⟩, c0, k0⟩
  have H1 : Hid (Cur W bc a len cap w1 ∧ Keep bc (w.alloc (.cells #[.int .i64 0, .int .i64 0] 33)) w1) := ⟨c0, k0⟩
  clear c0 k0
  go_wp2_with fail
  refine (drawBelow hc 5 (by omega) _ H1.out.1).mono ?_
  rintro e w2 ⟨⟨x1, rfl, x10, x11⟩, c1, k1⟩
  have H2 : Hid (Cur W bc a len cap w2 ∧ Keep bc (w.alloc (.cells #[.int .i64 0, .int .i64 0] 33)) w2) := ⟨c1, H1.out.2.trans k1⟩
  clear c1 k1 H1
  have hs : w.heap.size < w2.heap.size := by have := H2.out.2.size; simp at *; omega
  go_wp2_with fail
  have X : Hid (DrX 33 #[.int .i64 0, .int .i64 0] W bc a len cap w w.heap.size w2.heap.size #[.int .i64 x0, .int .i64 (1 + x1)] (w2.alloc (.cells #[.int .i64 x0, .int .i64 (1 + x1)] 33))) := by
    have kk := H2.out.2
    exact ⟨Boxed.new _ _ _, ((Boxed.new w #[.int .i64 0, .int .i64 0] 33).keep (by omega) kk).more _, H2.out.1.alloc _, (((Keep.refl _ w).alloc _).trans kk).alloc _, Nat.le_refl _, hs, hbc⟩
  generalize w2.alloc (.cells #[.int .i64 x0, .int .i64 (1 + x1)] 33) = wA at X ⊢
  generalize w2.heap.size = B at X hs ⊢
  obtain ⟨b1, hb1⟩ : ∃ z, z = (1 + x1) := ⟨_, rfl⟩
  rw [← hb1] at X ⊢
  clear hb1 x00 x01 x10 x11 H2
  refine (drawOnce hc 20 (by omega) _ X.out.cur).mono ?_
  rintro e wC ⟨⟨bo, rfl⟩, cC, kC⟩
  have XC : Hid (DrX 33 #[.int .i64 0, .int .i64 0] W bc a len cap w w.heap.size B #[.int .i64 x0, .int .i64 b1] wC) := X.out.draw cC kC
  clear cC kC X
  cases bo
  · go_wp2_with (first | (refine wpList_load_row rfl 33 (.tmp 3) rfl B rfl _ _ _ _ XC.out.rt Tryz.underlying33 rfl (by kernel_rfl) ?_) | (refine wpList_store_row rfl 33 (.tmp 2) (.tmp 23) rfl w.heap.size _ rfl rfl _ _ XC.out.res (by kernel_rfl) rfl (duOnes _ _) ?_))
    exact XC.out.done Tryz.results30 rfl rfl Tryz.underlying33 (by kernel_rfl) ⟨⟨x0, b1⟩, rfl⟩
  go_upto_region 3 with fail
  go_wp2_with fail
  refine region_lists (G := Unit) (by kernel_rfl) (by kernel_rfl) (by kernel_rfl) (fun i => if i = 0 then 3 else if i = 3 then 4 else if i = 5 then 8 else if i = 8 then 9 else 99) (fun (L : Nat → Bool) (_ : Unit) (x : World) => L 11 = false → DrX 33 #[.int .i64 0, .int .i64 0] W bc a len cap w w.heap.size B #[.int .i64 x0, .int .i64 b1] x) (fun i _ x _ x' => (i ≠ 2 → i ≠ 7 → i ≠ 11 → Below x.heap.size x x') ∧ (i ≠ 11 → Keep bc x x')) (fun i y x u => ([fun _ x u => ∃ g, u = .slice (some ⟨g, 0, none⟩) 3 3 ∧ g ≠ bc ∧ TabAt x g 3, fun _ _ u => u = (.pointer (some ⟨bc, 0, none⟩)), fun _ _ u => ∃ k : Nat, u = .int .i64 (k : Int) ∧ k < 3, fun _ x u => ∃ g k, u = .pointer (some ⟨g, k, none⟩) ∧ k < 3 ∧ g ≠ bc ∧ TabAt x g 3, fun _ _ u => ∃ z : Int, u = .int .i64 z, fun _ x u => ∃ g, u = .slice (some ⟨g, 0, none⟩) 4 4 ∧ g ≠ bc ∧ TabAt x g 4, fun _ _ u => u = (.pointer (some ⟨bc, 0, none⟩)), fun _ _ u => ∃ k : Nat, u = .int .i64 (k : Int) ∧ k < 4, fun _ x u => ∃ g k, u = .pointer (some ⟨g, k, none⟩) ∧ k < 4 ∧ g ≠ bc ∧ TabAt x g 4, fun _ _ u => ∃ z : Int, u = .int .i64 z, fun _ _ u => ∃ z y : Int, u = .agg #[.int .i64 z, .int .i64 y], fun _ x _ => ∃ z y : Int, DrX 33 #[.int .i64 0, .int .i64 0] W bc a len cap w w.heap.size B #[.int .i64 z, .int .i64 y] x] : List (Unit → World → Value → Prop)).getD i (fun _ _ _ => True) y x u) ?hR () ?h0 ?step ?last
  case hR =>
    intro i j y y' x x' u hi hj hne hu h1 h2 hp hr
    have hi' : i < 12 := hi
    have hj' : j < 12 := hj
    obtain ⟨r1, r2⟩ := hr
    by_cases h11 : i = 11
    · subst h11
      have hcases : j = 0 ∨ j = 1 ∨ j = 2 ∨ j = 3 ∨ j = 4 ∨ j = 5 ∨ j = 6 ∨ j = 7 ∨ j = 8 ∨ j = 9 ∨ j = 10 ∨ j = 11 := by omega
      rcases hcases with rfl | rfl | rfl | rfl | rfl | rfl | rfl | rfl | rfl | rfl | rfl | rfl
      · exfalso
        first | exact absurd rfl hne | exact absurd rfl hu | (exact absurd h1 (by decide +kernel)) | (exact absurd h2 (by decide +kernel))
      · exact hp
      · exact hp
      · exfalso
        first | exact absurd rfl hne | exact absurd rfl hu | (exact absurd h1 (by decide +kernel)) | (exact absurd h2 (by decide +kernel))
      · exact hp
      · exfalso
        first | exact absurd rfl hne | exact absurd rfl hu | (exact absurd h1 (by decide +kernel)) | (exact absurd h2 (by decide +kernel))
      · exact hp
      · exact hp
      · exfalso
        first | exact absurd rfl hne | exact absurd rfl hu | (exact absurd h1 (by decide +kernel)) | (exact absurd h2 (by decide +kernel))
      · exact hp
      · exact hp
      · exfalso
        first | exact absurd rfl hne | exact absurd rfl hu | (exact absurd h1 (by decide +kernel)) | (exact absurd h2 (by decide +kernel))
    have kk := r2 h11
    have hcases : j = 0 ∨ j = 1 ∨ j = 2 ∨ j = 3 ∨ j = 4 ∨ j = 5 ∨ j = 6 ∨ j = 7 ∨ j = 8 ∨ j = 9 ∨ j = 10 ∨ j = 11 := by omega
    rcases hcases with rfl | rfl | rfl | rfl | rfl | rfl | rfl | rfl | rfl | rfl | rfl | rfl
    · obtain ⟨g, e, hg, ht⟩ := hp
      exact ⟨g, e, hg, ht.keep hg kk⟩
    · exact hp
    · exact hp
    · obtain ⟨g, k, e, hk, hg, ht⟩ := hp
      exact ⟨g, k, e, hk, hg, ht.keep hg kk⟩
    · exact hp
    · obtain ⟨g, e, hg, ht⟩ := hp
      exact ⟨g, e, hg, ht.keep hg kk⟩
    · exact hp
    · exact hp
    · obtain ⟨g, k, e, hk, hg, ht⟩ := hp
      exact ⟨g, k, e, hk, hg, ht.keep hg kk⟩
    · exact hp
    · exact hp
    · exfalso
      have hcase : i = 0 ∨ i = 1 ∨ i = 2 ∨ i = 3 ∨ i = 4 ∨ i = 5 ∨ i = 6 ∨ i = 7 ∨ i = 8 ∨ i = 9 ∨ i = 10 := by omega
      rcases hcase with rfl | rfl | rfl | rfl | rfl | rfl | rfl | rfl | rfl | rfl | rfl
      all_goals exact absurd h1 (by decide +kernel)
  case h0 => exact fun _ => XC.out.drew
  case step =>
    intro i o hi ho L a' y x hLi hwt hre hkp hI hp
    have s0 : a'.tmps[0]?.getD undef = (.pointer (some ⟨bc, 0, none⟩)) := by have h2 : a'.tmps.getD 0 undef = (.pointer (some ⟨bc, 0, none⟩)) := hkp.slot 0 (by kernel_rfl); simpa using h2
    have s3 : a'.eval (.tmp 3) = .pointer (some ⟨B, 0, none⟩) := by have h2 : a'.tmps.getD 3 undef = .pointer (some ⟨B, 0, none⟩) := hkp.slot 3 (by kernel_rfl); simpa [Act.eval] using h2
    have hi' : i < 12 := hi
    have hcases : i = 0 ∨ i = 1 ∨ i = 2 ∨ i = 3 ∨ i = 4 ∨ i = 5 ∨ i = 6 ∨ i = 7 ∨ i = 8 ∨ i = 9 ∨ i = 10 ∨ i = 11 := by omega
    rcases hcases with rfl | rfl | rfl | rfl | rfl | rfl | rfl | rfl | rfl | rfl | rfl | rfl
    · cases ho
      have hB := hI (hre 11 (by decide +kernel))
      refine ⟨wanted_none rfl, Oper.wp_mono (K := fun a'' w'' => a'' = a'.put (some 12) (.slice (some ⟨x.heap.size, 0, none⟩) 3 3) ∧ w'' = x.alloc (.cells #[.int .i64 (-1), .int .i64 1099511627776, .int .i64 1099511627777] 2)) ?_ ?_⟩
      · rintro _ _ ⟨rfl, rfl⟩
        exact ⟨_, (), rfl, ⟨fun _ _ _ => (Below.refl _ _).alloc (Nat.le_refl _) _, fun _ => (Keep.refl _ _).alloc _⟩, fun _ => hB.more _, fun u hu => ⟨x.heap.size, hu (fun h => by cases h), hB.cur.ne, TabAt.new x [-1, 1099511627776, 1099511627777] 2⟩⟩
      · unfold Oper.wp
        simp [go_sem]
    · cases ho
      refine ⟨wanted_none rfl, Oper.wp_mono (K := fun a'' w'' => a'' = a'.put (some 13) (.pointer (some ⟨bc, 0, none⟩)) ∧ w'' = x) ?_ ?_⟩
      · rintro _ _ ⟨rfl, rfl⟩
        exact ⟨_, (), rfl, ⟨fun _ _ _ => Below.refl _ _, fun _ => Keep.refl _ _⟩, fun h => hI (by have h' : (if (11 : Nat) = 1 then true else L 11) = false := h; simpa using h'), fun u hu => hu (fun h => by cases h)⟩
      · unfold Oper.wp
        simp [go_sem, s0]
    · cases ho
      have hB := hI (hre 11 (by decide +kernel))
      have e1 := hp 1 (of_decide_eq_true (by kernel_rfl)) (.inr (by decide))
      have q1 : a'.tmps[13]?.getD undef = (.pointer (some ⟨bc, 0, none⟩)) := by have h2 : a'.tmps.getD 13 undef = (.pointer (some ⟨bc, 0, none⟩)) := e1; simpa using h2
      refine ⟨wanted_none rfl, op_callR (by simp [execOp, resolve, Deferred.ofValue, invoke, Act.eval, q1]) (drawBelow hc 3 (by omega) x hB.cur) ?_⟩
      rintro e z ⟨⟨v, rfl, v0, v1⟩, ci, ki⟩
      obtain ⟨k, rfl⟩ := Int.eq_ofNat_of_zero_le v0
      exact ⟨_, rfl, _, (), rfl, ⟨fun h2 h7 _ => by first | exact absurd rfl h2 | exact absurd rfl h7, fun _ => ki⟩, fun _ => hB.draw ci ki, fun u hu => ⟨k, hu (fun h => by cases h), by omega⟩⟩
    · cases ho
      obtain ⟨g, e0, hg, ht⟩ := hp 0 (of_decide_eq_true (by kernel_rfl)) (.inl rfl)
      obtain ⟨k, e2, hk⟩ := hp 2 (of_decide_eq_true (by kernel_rfl)) (.inr (by decide))
      have q0 : a'.tmps[12]?.getD undef = .slice (some ⟨g, 0, none⟩) 3 3 := by have h2 : a'.tmps.getD 12 undef = .slice (some ⟨g, 0, none⟩) 3 3 := e0; simpa using h2
      have q2 : a'.tmps[14]?.getD undef = .int .i64 (k : Int) := by have h2 : a'.tmps.getD 14 undef = .int .i64 (k : Int) := e2; simpa using h2
      refine ⟨wanted_none rfl, Oper.wp_mono (K := fun a'' w'' => a'' = a'.put (some 15) (.pointer (some ⟨g, k, none⟩)) ∧ w'' = x) ?_ ?_⟩
      · rintro _ _ ⟨rfl, rfl⟩
        exact ⟨_, (), rfl, ⟨fun _ _ _ => Below.refl _ _, fun _ => Keep.refl _ _⟩, fun h => hI (by have h' : (if (11 : Nat) = 3 then true else L 11) = false := h; simpa using h'), fun u hu => ⟨g, k, hu (fun h => by cases h), hk, hg, ht⟩⟩
      · unfold Oper.wp
        simp [go_sem, q0, q2, show (k : Int) < 3 by omega]
    · cases ho
      obtain ⟨g, k, e3, hk, hg, ht⟩ := hp 3 (of_decide_eq_true (by kernel_rfl)) (.inl rfl)
      have q3 : a'.tmps[15]?.getD undef = .pointer (some ⟨g, k, none⟩) := by have h2 : a'.tmps.getD 15 undef = .pointer (some ⟨g, k, none⟩) := e3; simpa using h2
      obtain ⟨z, fc⟩ := ht.2 k hk
      refine ⟨wanted_none rfl, Oper.wp_mono (K := fun a'' w'' => a'' = a'.put (some 16) (.int .i64 z) ∧ w'' = x) ?_ ?_⟩
      · rintro _ _ ⟨rfl, rfl⟩
        exact ⟨_, (), rfl, ⟨fun _ _ _ => Below.refl _ _, fun _ => Keep.refl _ _⟩, fun h => hI (by have h' : (if (11 : Nat) = 4 then true else L 11) = false := h; simpa using h'), fun u hu => ⟨z, hu (fun h => by cases h)⟩⟩
      · unfold Oper.wp
        simp [go_sem, q3, fc]
    · cases ho
      have hB := hI (hre 11 (by decide +kernel))
      refine ⟨wanted_none rfl, Oper.wp_mono (K := fun a'' w'' => a'' = a'.put (some 17) (.slice (some ⟨x.heap.size, 0, none⟩) 4 4) ∧ w'' = x.alloc (.cells #[.int .i64 0, .int .i64 1, .int .i64 1000000, .int .i64 1000001] 2)) ?_ ?_⟩
      · rintro _ _ ⟨rfl, rfl⟩
        exact ⟨_, (), rfl, ⟨fun _ _ _ => (Below.refl _ _).alloc (Nat.le_refl _) _, fun _ => (Keep.refl _ _).alloc _⟩, fun _ => hB.more _, fun u hu => ⟨x.heap.size, hu (fun h => by cases h), hB.cur.ne, TabAt.new x [0, 1, 1000000, 1000001] 2⟩⟩
      · unfold Oper.wp
        simp [go_sem]
    · cases ho
      refine ⟨wanted_none rfl, Oper.wp_mono (K := fun a'' w'' => a'' = a'.put (some 18) (.pointer (some ⟨bc, 0, none⟩)) ∧ w'' = x) ?_ ?_⟩
      · rintro _ _ ⟨rfl, rfl⟩
        exact ⟨_, (), rfl, ⟨fun _ _ _ => Below.refl _ _, fun _ => Keep.refl _ _⟩, fun h => hI (by have h' : (if (11 : Nat) = 6 then true else L 11) = false := h; simpa using h'), fun u hu => hu (fun h => by cases h)⟩
      · unfold Oper.wp
        simp [go_sem, s0]
    · cases ho
      have hB := hI (hre 11 (by decide +kernel))
      have e6 := hp 6 (of_decide_eq_true (by kernel_rfl)) (.inr (by decide))
      have q6 : a'.tmps[18]?.getD undef = (.pointer (some ⟨bc, 0, none⟩)) := by have h2 : a'.tmps.getD 18 undef = (.pointer (some ⟨bc, 0, none⟩)) := e6; simpa using h2
      refine ⟨wanted_none rfl, op_callR (by simp [execOp, resolve, Deferred.ofValue, invoke, Act.eval, q6]) (drawBelow hc 4 (by omega) x hB.cur) ?_⟩
      rintro e z ⟨⟨v, rfl, v0, v1⟩, ci, ki⟩
      obtain ⟨k, rfl⟩ := Int.eq_ofNat_of_zero_le v0
      exact ⟨_, rfl, _, (), rfl, ⟨fun h2 h7 _ => by first | exact absurd rfl h2 | exact absurd rfl h7, fun _ => ki⟩, fun _ => hB.draw ci ki, fun u hu => ⟨k, hu (fun h => by cases h), by omega⟩⟩
    · cases ho
      obtain ⟨g, e5, hg, ht⟩ := hp 5 (of_decide_eq_true (by kernel_rfl)) (.inl rfl)
      obtain ⟨k, e7, hk⟩ := hp 7 (of_decide_eq_true (by kernel_rfl)) (.inr (by decide))
      have q5 : a'.tmps[17]?.getD undef = .slice (some ⟨g, 0, none⟩) 4 4 := by have h2 : a'.tmps.getD 17 undef = .slice (some ⟨g, 0, none⟩) 4 4 := e5; simpa using h2
      have q7 : a'.tmps[19]?.getD undef = .int .i64 (k : Int) := by have h2 : a'.tmps.getD 19 undef = .int .i64 (k : Int) := e7; simpa using h2
      refine ⟨wanted_none rfl, Oper.wp_mono (K := fun a'' w'' => a'' = a'.put (some 20) (.pointer (some ⟨g, k, none⟩)) ∧ w'' = x) ?_ ?_⟩
      · rintro _ _ ⟨rfl, rfl⟩
        exact ⟨_, (), rfl, ⟨fun _ _ _ => Below.refl _ _, fun _ => Keep.refl _ _⟩, fun h => hI (by have h' : (if (11 : Nat) = 8 then true else L 11) = false := h; simpa using h'), fun u hu => ⟨g, k, hu (fun h => by cases h), hk, hg, ht⟩⟩
      · unfold Oper.wp
        simp [go_sem, q5, q7, show (k : Int) < 4 by omega]
    · cases ho
      obtain ⟨g, k, e8, hk, hg, ht⟩ := hp 8 (of_decide_eq_true (by kernel_rfl)) (.inl rfl)
      have q8 : a'.tmps[20]?.getD undef = .pointer (some ⟨g, k, none⟩) := by have h2 : a'.tmps.getD 20 undef = .pointer (some ⟨g, k, none⟩) := e8; simpa using h2
      obtain ⟨z, fc⟩ := ht.2 k hk
      refine ⟨wanted_none rfl, Oper.wp_mono (K := fun a'' w'' => a'' = a'.put (some 21) (.int .i64 z) ∧ w'' = x) ?_ ?_⟩
      · rintro _ _ ⟨rfl, rfl⟩
        exact ⟨_, (), rfl, ⟨fun _ _ _ => Below.refl _ _, fun _ => Keep.refl _ _⟩, fun h => hI (by have h' : (if (11 : Nat) = 9 then true else L 11) = false := h; simpa using h'), fun u hu => ⟨z, hu (fun h => by cases h)⟩⟩
      · unfold Oper.wp
        simp [go_sem, q8, fc]
    · cases ho
      obtain ⟨z, e4⟩ := hp 4 (of_decide_eq_true (by kernel_rfl)) (.inr (by decide))
      obtain ⟨z2, e9⟩ := hp 9 (of_decide_eq_true (by kernel_rfl)) (.inr (by decide))
      have q4 : a'.tmps[16]?.getD undef = .int .i64 z := by have h2 : a'.tmps.getD 16 undef = .int .i64 z := e4; simpa using h2
      have q9 : a'.tmps[21]?.getD undef = .int .i64 z2 := by have h2 : a'.tmps.getD 21 undef = .int .i64 z2 := e9; simpa using h2
      refine ⟨wanted_none rfl, Oper.wp_mono (K := fun a'' w'' => a'' = a'.put (some 22) (.agg #[.int .i64 z, .int .i64 z2]) ∧ w'' = x) ?_ ?_⟩
      · rintro _ _ ⟨rfl, rfl⟩
        exact ⟨_, (), rfl, ⟨fun _ _ _ => Below.refl _ _, fun _ => Keep.refl _ _⟩, fun h => hI (by have h' : (if (11 : Nat) = 10 then true else L 11) = false := h; simpa using h'), fun u hu => ⟨z, z2, hu (fun h => by cases h)⟩⟩
      · unfold Oper.wp
        simp [go_sem, q4, q9]
    · cases ho
      have hB := hI hLi
      obtain ⟨z, z2, e10⟩ := hp 10 (of_decide_eq_true (by kernel_rfl)) (.inr (by decide))
      have e10' : a'.tmps.getD 22 undef = .agg #[.int .i64 z, .int .i64 z2] := e10
      refine ⟨wanted_none rfl, wp_store_row 33 (.tmp 3) (.tmp 22) rfl B #[.int .i64 z, .int .i64 z2] s3 (by simpa [Act.eval] using e10') _ _ hB.rt (by kernel_rfl) rfl (duOnes _ _) ⟨undef, (), rfl, ⟨fun _ _ h => absurd rfl h, fun h => absurd rfl h⟩, (fun h => by simp at h), fun _ _ => ⟨z, z2, hB.fillB _⟩⟩⟩
  case last =>
  intro L a' y x hall hkp hI hp
  obtain ⟨z, z2, R3⟩ := hp 11 (by decide) (by decide)
  have HR3 : Hid (DrX 33 #[.int .i64 0, .int .i64 0] W bc a len cap w w.heap.size B #[.int .i64 z, .int .i64 z2] x) := R3
  have ha := hkp.pick [true, true, true, true, true, true, true, true, true, true, true, true, false, false, false, false, false, false, false, false, false, false, false, true] (by kernel_rfl)
  simp only [pickS] at ha
  clear hp hkp hI hall R3 XC
  generalize a'.tmps.getD 12 undef = y12 at ha
  generalize a'.tmps.getD 13 undef = y13 at ha
  generalize a'.tmps.getD 14 undef = y14 at ha
  generalize a'.tmps.getD 15 undef = y15 at ha
  generalize a'.tmps.getD 16 undef = y16 at ha
  generalize a'.tmps.getD 17 undef = y17 at ha
  generalize a'.tmps.getD 18 undef = y18 at ha
  generalize a'.tmps.getD 19 undef = y19 at ha
  generalize a'.tmps.getD 20 undef = y20 at ha
  generalize a'.tmps.getD 21 undef = y21 at ha
  generalize a'.tmps.getD 22 undef = y22 at ha
  rw [ha]
  clear ha
  go_wp2_with (first | (refine wpList_load_row rfl 33 (.tmp 3) rfl B rfl _ _ _ _ HR3.out.rt Tryz.underlying33 rfl (by kernel_rfl) ?_) | (refine wpList_store_row rfl 33 (.tmp 2) (.tmp 23) rfl w.heap.size _ rfl rfl _ _ HR3.out.res (by kernel_rfl) rfl (duOnes _ _) ?_))
  exact HR3.out.done Tryz.results30 rfl rfl Tryz.underlying33 (by kernel_rfl) ⟨⟨z, z2⟩, rfl⟩
end Go.Proofs.YtkocbfikcjgigaaGreat

/-
  What lies while the model draws wheels: the wheel that is drawn, the answer's variable, the cursor. By the verifier.
-/
namespace Go.Proofs.YtkocbfikcjgigaaGreat
open Go.RowKit

/-- The wheel that is drawn (a variable at B), the answer's variable (at A), the cursor. -/
structure DrH (W : World) (bc : Nat) (ac : Option Addr) (len cap : Nat) (w : World) (B : Nat) (f : Int) (n : Nat) (vx : Option Addr) (vc : Nat) (vs : List Value) (ls : List (List Du)) (wr : World) : Prop where
  cur : Cur W bc ac len cap wr
  kp : Keep bc w wr
  res : Boxed wr w.heap.size #[.int .i64 0, .slice none 0 0] 29
  out : Boxed wr B #[.int .i64 f, .slice vx n vc] 29
  g : DzG (w.heap.size + 1) (.slice vx n vc) vs ls wr
  hn : ls.length = n
  lt : w.heap.size < B
  bl : bc < w.heap.size
section
variable {W : World} {bc : Nat} {ac : Option Addr} {len cap : Nat} {w : World} {B : Nat} {f : Int} {n : Nat} {vx : Option Addr} {vc : Nat} {vs : List Value} {ls : List (List Du)} {wr wd : World}
theorem DrH.draw (h : DrH W bc ac len cap w B f n vx vc vs ls wr) (c : Cur W bc ac len cap wd) (k : Keep bc wr wd) : DrH W bc ac len cap w B f n vx vc vs ls wd := by
  have h1 := h.lt
  have h2 := h.bl
  exact ⟨c, h.kp.trans k, h.res.keep (by omega) k, h.out.keep (by omega) k, h.g.other fun y hy hl => k.block y (by omega) hl, h.hn, h.lt, h.bl⟩
theorem DrH.below (h : DrH W bc ac len cap w B f n vx vc vs ls wr) (g : Below wr.heap.size wr wd) : DrH W bc ac len cap w B f n vx vc vs ls wd :=
  ⟨h.cur.below h.cur.lt g, ⟨Nat.le_trans h.kp.size g.size, fun k k1 k2 => (g.block k (Nat.lt_of_lt_of_le k2 h.kp.size)).trans (h.kp.block k k1 k2)⟩, h.res.below h.res.under g, h.out.below h.out.under g, h.g.below g, h.hn, h.lt, h.bl⟩
/-- The rows' blocks are not the variable's. -/
theorem DrH.apart (h : DrH W bc ac len cap w B f n vx vc vs ls wr) : (Value.slice vx n vc).ownBlock ≠ some B ∧ ∀ i, i < ls.length → (dzV vs i).ownBlock ≠ some B := by
  have key : ∀ {e : TypeId} {c m : Nat} {v : Value} {xs : List Value} {b0 : Nat}, wr.ownsRow b0 e c v m xs → e ≠ 29 → v.ownBlock ≠ some B := by
    intro e c m v xs b0 hr hne hv
    rcases hr.2 with ⟨e', _⟩ | ⟨g', cap', cur', e', _, hg', _⟩
    · rw [e'] at hv; cases hv
    · rw [e'] at hv
      cases hv
      have h1 := h.out
      unfold Boxed at h1
      simp only at h1
      rw [h1] at hg'
      simp only [Option.some.injEq, Obj.cells.injEq] at hg'
      exact hne hg'.2.1.symm
  exact ⟨key h.g.outer (by decide), fun i hi => key (h.g.row i hi) (by decide)⟩
/-- One list changed: its new row made behind, or grown in its place. -/
theorem DrH.set {u : Value} {j g : Nat} {l : List Du} (h : DrH W bc ac len cap w B f n (some ⟨g, 0, none⟩) vc vs ls wr) (hj : j < ls.length) (hu : DuRow (w.heap.size + 1) wd u l) (hb : Below (w.heap.size + 1) wr wd) (g2 : ∀ k, (dzV vs j).ownBlock ≠ some k → k < wr.heap.size → wd.heap[k]? = wr.heap[k]?) (hw : ∀ k, u.ownBlock = some k → (dzV vs j).ownBlock = some k ∨ wr.heap.size ≤ k) :
    DrH W bc ac len cap w B f n (some ⟨g, 0, none⟩) vc (vs.set j u) (ls.set j l) (wd.setCell ⟨g, j, none⟩ u) := by
  have h1 := h.lt
  have h2 := h.bl
  have h3 := h.cur.lo
  have hg := (World.ownsRow.lt h.g.outer g rfl)
  have ap := h.apart
  have hgB : g ≠ B := fun e => ap.1 (by rw [← e]; rfl)
  have o : ∀ y, y ≠ g → (wd.setCell ⟨g, j, none⟩ u).heap[y]? = wd.heap[y]? := fun y hy => Below.heap_setCell _ _ _ _ hy
  have bel : Below (w.heap.size + 1) wr (wd.setCell ⟨g, j, none⟩ u) := hb.setCell (by show w.heap.size + 1 ≤ g; exact hg.1) _
  refine ⟨h.cur.below (by omega) bel, ⟨Nat.le_trans h.kp.size bel.size, fun k k1 k2 => (bel.block k (by omega)).trans (h.kp.block k k1 k2)⟩, h.res.below (by omega) bel, ?_, h.g.set hj hu g2 hw (by rw [h.hn]), by rw [List.length_set]; exact h.hn, h.lt, h.bl⟩
  exact ((o B (fun e => hgB e.symm)).trans (g2 B (ap.2 j hj) h.out.under)).trans h.out
/-- The number of the rows changed. -/
theorem DrH.step {z : Int} (h : DrH W bc ac len cap w B f n vx vc vs ls wr) : DrH W bc ac len cap w B z n vx vc vs ls (wr.setCell ⟨B, 0, none⟩ (.int .i64 z)) := by
  have h1 := h.lt
  have h2 := h.bl
  have ap := h.apart
  have o : ∀ y, y ≠ B → (wr.setCell ⟨B, 0, none⟩ (.int .i64 z)).heap[y]? = wr.heap[y]? := fun y hy => Below.heap_setCell _ _ _ _ hy
  have bel : Below (w.heap.size + 1) wr (wr.setCell ⟨B, 0, none⟩ (.int .i64 z)) := (Below.refl _ _).setCell (by show w.heap.size + 1 ≤ B; omega) _
  refine ⟨h.cur.below (by omega) bel, ⟨Nat.le_trans h.kp.size bel.size, fun k k1 k2 => (bel.block k (by omega)).trans (h.kp.block k k1 k2)⟩, h.res.below (by omega) bel, h.out.put 0 _, ?_, h.hn, h.lt, h.bl⟩
  exact ⟨rows_carry h.g.outer fun k hk _ => o k fun e => ap.1 (by rw [← e]; exact hk), h.g.len, fun i hi => (h.g.row i hi).carry fun k hk _ => o k fun e => ap.2 i hi (by rw [← e]; exact hk), h.g.apart⟩
/-- Other lists in their place. -/
theorem DrH.slots {g' n' vc' : Nat} {vs' : List Value} {ls' : List (List Du)} (h : DrH W bc ac len cap w B f n vx vc vs ls wr) (hb : Below wr.heap.size wr wd) (hg : DzG wr.heap.size (.slice (some ⟨g', 0, none⟩) n' vc') vs' ls' wd) (hl : ls'.length = n') : DrH W bc ac len cap w B f n' (some ⟨g', 0, none⟩) vc' vs' ls' (wd.setCell ⟨B, 1, none⟩ (.slice (some ⟨g', 0, none⟩) n' vc')) := by
  have h1 := h.lt
  have h2 := h.bl
  have h3 := h.out.under
  have o : ∀ y, y ≠ B → (wd.setCell ⟨B, 1, none⟩ (.slice (some ⟨g', 0, none⟩) n' vc')).heap[y]? = wd.heap[y]? := fun y hy => Below.heap_setCell _ _ _ _ hy
  have bel : Below (w.heap.size + 1) wr (wd.setCell ⟨B, 1, none⟩ (.slice (some ⟨g', 0, none⟩) n' vc')) := (hb.mono (by omega)).setCell (by show w.heap.size + 1 ≤ B; omega) _
  have hg2 : DzG wr.heap.size (.slice (some ⟨g', 0, none⟩) n' vc') vs' ls' (wd.setCell ⟨B, 1, none⟩ (.slice (some ⟨g', 0, none⟩) n' vc')) := hg.other fun k hk _ => o k (by omega)
  refine ⟨h.cur.below (by omega) bel, ⟨Nat.le_trans h.kp.size bel.size, fun k k1 k2 => (bel.block k (by omega)).trans (h.kp.block k k1 k2)⟩, h.res.below (by omega) bel, ((h.out.below h3 hb).put 1 _), ?_, hl, h.lt, h.bl⟩
  refine ⟨⟨hg2.outer.1, hg2.outer.2.imp id ?_⟩, hg2.len, fun i hi => (hg2.row i hi).mono (by omega), hg2.apart⟩
  rintro ⟨g0, c0, cur0, e1, e2, e3⟩
  exact ⟨g0, c0, cur0, e1, by omega, e3⟩
/-- The answer's variable filled. -/
theorem DrH.done (h : DrH W bc ac len cap w B f n vx vc vs ls wr) : WhIn w.heap.size (wr.setRow w.heap.size #[.int .i64 f, .slice vx n vc]).heap.size (wr.setRow w.heap.size #[.int .i64 f, .slice vx n vc]) (.agg #[.int .i64 f, .slice vx n vc]) ⟨f, ls⟩ ∧ Cur W bc ac len cap (wr.setRow w.heap.size #[.int .i64 f, .slice vx n vc]) ∧ Keep bc w (wr.setRow w.heap.size #[.int .i64 f, .slice vx n vc]) := by
  have g1 := h.lt
  have g2 := h.bl
  have g3 := h.cur.lo
  have o : ∀ k, k ≠ w.heap.size → (wr.setRow w.heap.size #[.int .i64 f, .slice vx n vc]).heap[k]? = wr.heap[k]? := fun k hk => setRow_other _ _ _ _ hk
  refine ⟨⟨vx, vc, by unfold Wh.val; simp [h.hn], vs, ?_⟩, h.cur.other (B := w.heap.size) (by omega) o (below_setRow (Below.refl _ _) (by omega) _), ⟨by rw [size_setRow]; exact h.kp.size, fun k q1 q2 => (o k (by omega)).trans (h.kp.block k q1 q2)⟩⟩
  have hg : DzG (w.heap.size + 1) (.slice vx n vc) vs ls (wr.setRow w.heap.size #[.int .i64 f, .slice vx n vc]) := h.g.other fun k hk _ => o k (by omega)
  show DzV _ _ _ (.slice vx ls.length vc) vs ls
  rw [h.hn]
  exact hg.done.wide (by omega) (Nat.le_refl _) (Nat.le_refl _)
theorem DrH.at' (h : DrH W bc ac len cap w B f n vx vc vs ls wr) : DzAt wr vx ls := by
  have := h.g.done
  rw [← h.hn] at this
  exact this.at
end
/-- So many empty lists. -/
theorem dzG_made (w : World) (n : Nat) (hn : n ≤ 1000) (base : Nat) (hb : base ≤ w.heap.size) : DzG base (.slice (some ⟨w.heap.size, 0, none⟩) n n) (List.replicate n (.slice none 0 0)) (List.replicate n []) (w.alloc (.cells (madeCells #[.slice none 0 0] (n * 1)) 24)) := by
  have ev : ∀ i, i < n → dzV (List.replicate n (.slice none 0 0)) i = .slice none 0 0 := fun i hi => by unfold dzV; rw [List.getElem?_replicate]; simp [hi]
  refine ⟨?_, by simp, fun i hi => ?_, fun i j k hi hj hne h1 => ?_⟩
  · have := World.ownsRow_lit (size := 1) (e := 24) (base := base) w (madeCells #[.slice none 0 0] (n * 1)) n hb (by unfold maxLen; omega) (by rw [size_madeCells])
    have e : (madeCells #[Value.slice none 0 0] (n * 1)).toList = List.replicate n (.slice none 0 0) := by
      apply List.ext_getElem?
      intro i
      by_cases hi : i < n
      · simp [madeCells, hi, Nat.mod_one]
      · rw [List.getElem?_eq_none (by simp [madeCells]; omega), List.getElem?_eq_none (by simp; omega)]
    rw [e] at this
    simpa using this
  · rw [List.length_replicate] at hi
    have e2 : dzAt (List.replicate n ([] : List Du)) i = [] := by simp [dzAt, hi]
    rw [ev i hi, e2]
    exact World.ownsRow_nil _ base _ 2
  · rw [List.length_replicate] at hi
    rw [ev i hi] at h1
    cases h1
end Go.Proofs.YtkocbfikcjgigaaGreat
