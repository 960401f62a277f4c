/-
  The model's drawing of a due. By the verifier, by program.
-/
import Derived.Test.YtkocbfikcjgigaaM1DrawRec
import Derived.Test.YtkocbfikcjgigaaDuPlain
import Derived.Test.YtkocbfikcjgigaaStepRow
import Derived.Test.YtkocbfikcjgigaaOpStep
import Derived.Test.YtkocbfikcjgigaaM3RegList
import Derived.Test.YtkocbfikcjgigaaM2RegGuard
import Derived.Deep.DeepCutAuto
namespace Go.Proofs.Ytkocbfikcjgigaa
open Go.RowKit

/-- A table of numbers, whatever they are. -/
def TabAt (x : World) (g n : Nat) : Prop := g < x.heap.size ∧ ∀ k, k < n → ∃ z : Int, x.cell? ⟨g, k, none⟩ = some (.int .i64 z)
theorem TabAt.new (x : World) (zs : List Int) (t : TypeId) : TabAt (x.alloc (.cells (zs.map (Value.int .i64)).toArray t)) x.heap.size zs.length := by
  refine ⟨by simp, fun k hk => ⟨zs[k], ?_⟩⟩
  exact (Boxed.new x _ t).cell k (by simp [hk])
theorem TabAt.keep {x x' : World} {g n bc : Nat} (h : TabAt x g n) (hg : g ≠ bc) (k : Keep bc x x') : TabAt x' g n :=
  ⟨Nat.lt_of_lt_of_le h.1 k.size, fun j hj => by
    obtain ⟨z, e⟩ := h.2 j hj
    exact ⟨z, by rw [k.cell (p := ⟨g, j, none⟩) hg h.1]; exact e⟩⟩
theorem TabAt.below {x x' : World} {g n : Nat} (h : TabAt x g n) (q : Below x.heap.size x x') : TabAt x' g n :=
  ⟨Nat.lt_of_lt_of_le h.1 q.size, fun j hj => by
    obtain ⟨z, e⟩ := h.2 j hj
    exact ⟨z, by rw [q.cell (p := ⟨g, j, none⟩) h.1]; exact e⟩⟩
theorem duOnes (a b : Int) : (#[Value.int .i64 a, .int .i64 b] : Array Value).all (·.oneCell') = true := by simp [Value.oneCell']

/-- The record that is drawn, filled anew. -/
theorem DrX.fillB {t : TypeId} {zs : Array Value} {W : World} {bc : Nat} {ac : Option Addr} {len cap : Nat} {w : World} {A B : Nat} {cs : Array Value} {wr : World} (h : DrX t zs W bc ac len cap w A B cs wr) (ds : Array Value) : DrX t zs W bc ac len cap w A B ds (wr.setRow B ds) := by
  have g0 := h.lo
  have g1 := h.lt
  have g2 := h.bl
  have g3 := h.cur.lo
  have o : ∀ k, k ≠ B → (wr.setRow B ds).heap[k]? = wr.heap[k]? := fun k hk => setRow_other _ _ _ _ hk
  refine ⟨setRow_heap _ _ _ _ _ _ h.rt, (o A (by omega)).trans h.res, h.cur.other (B := B) (by omega) o (below_setRow (Below.refl _ _) (by omega) _), ?_, h.lo, h.lt, h.bl⟩
  exact ⟨by rw [size_setRow]; exact h.kp.size, fun k q1 q2 => (o k (by omega)).trans (h.kp.block k q1 q2)⟩

set_option maxHeartbeats 6400000 in
set_option maxRecDepth 100000 in
theorem drawDue {W : World} {bc : Nat} {a : Option Addr} {len cap : Nat} (hc : Hid (Code W a len)) (w : World) (cur : Hid (Cur W bc a len cap w)) :
    Calls Try.prog 16 #[.pointer (some ⟨bc, 0, none⟩)] w fun e w' => (∃ v, e = .returned v ∧ ∃ l : Du, v = l.val) ∧ Cur W bc a len cap w' ∧ Keep bc w w' := by
  have hbc := cur.out.lt
  go_enter Try.func16, Try.ntmps16
  go_wp2_with fail
  refine (drawBelow hc 40 (by omega) _ (cur.out.alloc _)).mono ?_
  rintro e w1 ⟨⟨x0, rfl, x00, x01⟩, c0, k0⟩
  have H1 : Hid (Cur W bc a len cap w1 ∧ Keep bc (w.alloc (.cells #[.int .i64 0, .int .i64 0] 26)) w1) := ⟨c0, k0⟩
  clear c0 k0
  go_wp2_with fail
  refine (drawBelow hc 5 (by omega) _ H1.out.1).mono ?_
  rintro e w2 ⟨⟨x1, rfl, x10, x11⟩, c1, k1⟩
  have H2 : Hid (Cur W bc a len cap w2 ∧ Keep bc (w.alloc (.cells #[.int .i64 0, .int .i64 0] 26)) w2) := ⟨c1, H1.out.2.trans k1⟩
  clear c1 k1 H1
  have hs : w.heap.size < w2.heap.size := by have := H2.out.2.size; simp at *; omega
  go_wp2_with fail
  have X : Hid (DrX 26 #[.int .i64 0, .int .i64 0] W bc a len cap w w.heap.size w2.heap.size #[.int .i64 x0, .int .i64 (1 + x1)] (w2.alloc (.cells #[.int .i64 x0, .int .i64 (1 + x1)] 26))) := by
    have kk := H2.out.2
    exact ⟨Boxed.new _ _ _, ((Boxed.new w #[.int .i64 0, .int .i64 0] 26).keep (by omega) kk).more _, H2.out.1.alloc _, (((Keep.refl _ w).alloc _).trans kk).alloc _, Nat.le_refl _, hs, hbc⟩
  generalize w2.alloc (.cells #[.int .i64 x0, .int .i64 (1 + x1)] 26) = wA at X ⊢
  generalize w2.heap.size = B at X hs ⊢
  obtain ⟨b1, hb1⟩ : ∃ z, z = (1 + x1) := ⟨_, rfl⟩
  rw [← hb1] at X ⊢
  clear hb1 x00 x01 x10 x11 H2
  refine (drawOnce hc 20 (by omega) _ X.out.cur).mono ?_
  rintro e wC ⟨⟨bo, rfl⟩, cC, kC⟩
  have XC : Hid (DrX 26 #[.int .i64 0, .int .i64 0] W bc a len cap w w.heap.size B #[.int .i64 x0, .int .i64 b1] wC) := X.out.draw cC kC
  clear cC kC X
  cases bo
  · go_wp2_with (first | (refine wpList_load_row rfl 26 (.tmp 3) rfl B rfl _ _ _ _ XC.out.rt Try.underlying26 rfl (by kernel_rfl) ?_) | (refine wpList_store_row rfl 26 (.tmp 2) (.tmp 23) rfl w.heap.size _ rfl rfl _ _ XC.out.res (by kernel_rfl) rfl (duOnes _ _) ?_))
    exact XC.out.done Try.results16 rfl rfl Try.underlying26 (by kernel_rfl) ⟨⟨x0, b1⟩, rfl⟩
  go_upto_region 3 with fail
  go_wp2_with fail
  refine region_lists (G := Unit) (by kernel_rfl) (by kernel_rfl) (by kernel_rfl) (fun i => if i = 0 then 3 else if i = 3 then 4 else if i = 5 then 8 else if i = 8 then 9 else 99) (fun (L : Nat → Bool) (_ : Unit) (x : World) => L 11 = false → DrX 26 #[.int .i64 0, .int .i64 0] W bc a len cap w w.heap.size B #[.int .i64 x0, .int .i64 b1] x) (fun i _ x _ x' => (i ≠ 2 → i ≠ 7 → i ≠ 11 → Below x.heap.size x x') ∧ (i ≠ 11 → Keep bc x x')) (fun i y x u => ([fun _ x u => ∃ g, u = .slice (some ⟨g, 0, none⟩) 3 3 ∧ g ≠ bc ∧ TabAt x g 3, fun _ _ u => u = (.pointer (some ⟨bc, 0, none⟩)), fun _ _ u => ∃ k : Nat, u = .int .i64 (k : Int) ∧ k < 3, fun _ x u => ∃ g k, u = .pointer (some ⟨g, k, none⟩) ∧ k < 3 ∧ g ≠ bc ∧ TabAt x g 3, fun _ _ u => ∃ z : Int, u = .int .i64 z, fun _ x u => ∃ g, u = .slice (some ⟨g, 0, none⟩) 4 4 ∧ g ≠ bc ∧ TabAt x g 4, fun _ _ u => u = (.pointer (some ⟨bc, 0, none⟩)), fun _ _ u => ∃ k : Nat, u = .int .i64 (k : Int) ∧ k < 4, fun _ x u => ∃ g k, u = .pointer (some ⟨g, k, none⟩) ∧ k < 4 ∧ g ≠ bc ∧ TabAt x g 4, fun _ _ u => ∃ z : Int, u = .int .i64 z, fun _ _ u => ∃ z y : Int, u = .agg #[.int .i64 z, .int .i64 y], fun _ x _ => ∃ z y : Int, DrX 26 #[.int .i64 0, .int .i64 0] W bc a len cap w w.heap.size B #[.int .i64 z, .int .i64 y] x] : List (Unit → World → Value → Prop)).getD i (fun _ _ _ => True) y x u) ?hR () ?h0 ?step ?last
  case hR =>
    intro i j y y' x x' u hi hj hne hu h1 h2 hp hr
    have hi' : i < 12 := hi
    have hj' : j < 12 := hj
    obtain ⟨r1, r2⟩ := hr
    by_cases h11 : i = 11
    · subst h11
      have hcases : j = 0 ∨ j = 1 ∨ j = 2 ∨ j = 3 ∨ j = 4 ∨ j = 5 ∨ j = 6 ∨ j = 7 ∨ j = 8 ∨ j = 9 ∨ j = 10 ∨ j = 11 := by omega
      rcases hcases with rfl | rfl | rfl | rfl | rfl | rfl | rfl | rfl | rfl | rfl | rfl | rfl
      · exfalso
        first | exact absurd rfl hne | exact absurd rfl hu | (exact absurd h1 (by decide +kernel)) | (exact absurd h2 (by decide +kernel))
      · exact hp
      · exact hp
      · exfalso
        first | exact absurd rfl hne | exact absurd rfl hu | (exact absurd h1 (by decide +kernel)) | (exact absurd h2 (by decide +kernel))
      · exact hp
      · exfalso
        first | exact absurd rfl hne | exact absurd rfl hu | (exact absurd h1 (by decide +kernel)) | (exact absurd h2 (by decide +kernel))
      · exact hp
      · exact hp
      · exfalso
        first | exact absurd rfl hne | exact absurd rfl hu | (exact absurd h1 (by decide +kernel)) | (exact absurd h2 (by decide +kernel))
      · exact hp
      · exact hp
      · exfalso
        first | exact absurd rfl hne | exact absurd rfl hu | (exact absurd h1 (by decide +kernel)) | (exact absurd h2 (by decide +kernel))
    have kk := r2 h11
    have hcases : j = 0 ∨ j = 1 ∨ j = 2 ∨ j = 3 ∨ j = 4 ∨ j = 5 ∨ j = 6 ∨ j = 7 ∨ j = 8 ∨ j = 9 ∨ j = 10 ∨ j = 11 := by omega
    rcases hcases with rfl | rfl | rfl | rfl | rfl | rfl | rfl | rfl | rfl | rfl | rfl | rfl
    · obtain ⟨g, e, hg, ht⟩ := hp
      exact ⟨g, e, hg, ht.keep hg kk⟩
    · exact hp
    · exact hp
    · obtain ⟨g, k, e, hk, hg, ht⟩ := hp
      exact ⟨g, k, e, hk, hg, ht.keep hg kk⟩
    · exact hp
    · obtain ⟨g, e, hg, ht⟩ := hp
      exact ⟨g, e, hg, ht.keep hg kk⟩
    · exact hp
    · exact hp
    · obtain ⟨g, k, e, hk, hg, ht⟩ := hp
      exact ⟨g, k, e, hk, hg, ht.keep hg kk⟩
    · exact hp
    · exact hp
    · exfalso
      have hcase : i = 0 ∨ i = 1 ∨ i = 2 ∨ i = 3 ∨ i = 4 ∨ i = 5 ∨ i = 6 ∨ i = 7 ∨ i = 8 ∨ i = 9 ∨ i = 10 := by omega
      rcases hcase with rfl | rfl | rfl | rfl | rfl | rfl | rfl | rfl | rfl | rfl | rfl
      all_goals exact absurd h1 (by decide +kernel)
  case h0 => exact fun _ => XC.out.drew
  case step =>
    intro i o hi ho L a' y x hLi hwt hre hkp hI hp
    have s0 : a'.tmps[0]?.getD undef = (.pointer (some ⟨bc, 0, none⟩)) := by have h2 : a'.tmps.getD 0 undef = (.pointer (some ⟨bc, 0, none⟩)) := hkp.slot 0 (by kernel_rfl); simpa using h2
    have s3 : a'.eval (.tmp 3) = .pointer (some ⟨B, 0, none⟩) := by have h2 : a'.tmps.getD 3 undef = .pointer (some ⟨B, 0, none⟩) := hkp.slot 3 (by kernel_rfl); simpa [Act.eval] using h2
    have hi' : i < 12 := hi
    have hcases : i = 0 ∨ i = 1 ∨ i = 2 ∨ i = 3 ∨ i = 4 ∨ i = 5 ∨ i = 6 ∨ i = 7 ∨ i = 8 ∨ i = 9 ∨ i = 10 ∨ i = 11 := by omega
    rcases hcases with rfl | rfl | rfl | rfl | rfl | rfl | rfl | rfl | rfl | rfl | rfl | rfl
    · cases ho
      have hB := hI (hre 11 (by decide +kernel))
      refine ⟨wanted_none rfl, Oper.wp_mono (K := fun a'' w'' => a'' = a'.put (some 12) (.slice (some ⟨x.heap.size, 0, none⟩) 3 3) ∧ w'' = x.alloc (.cells #[.int .i64 (-1), .int .i64 1099511627776, .int .i64 1099511627777] 2)) ?_ ?_⟩
      · rintro _ _ ⟨rfl, rfl⟩
        exact ⟨_, (), rfl, ⟨fun _ _ _ => (Below.refl _ _).alloc (Nat.le_refl _) _, fun _ => (Keep.refl _ _).alloc _⟩, fun _ => hB.more _, fun u hu => ⟨x.heap.size, hu (fun h => by cases h), hB.cur.ne, TabAt.new x [-1, 1099511627776, 1099511627777] 2⟩⟩
      · unfold Oper.wp
        simp [go_sem]
    · cases ho
      refine ⟨wanted_none rfl, Oper.wp_mono (K := fun a'' w'' => a'' = a'.put (some 13) (.pointer (some ⟨bc, 0, none⟩)) ∧ w'' = x) ?_ ?_⟩
      · rintro _ _ ⟨rfl, rfl⟩
        exact ⟨_, (), rfl, ⟨fun _ _ _ => Below.refl _ _, fun _ => Keep.refl _ _⟩, fun h => hI (by have h' : (if (11 : Nat) = 1 then true else L 11) = false := h; simpa using h'), fun u hu => hu (fun h => by cases h)⟩
      · unfold Oper.wp
        simp [go_sem, s0]
    · cases ho
      have hB := hI (hre 11 (by decide +kernel))
      have e1 := hp 1 (of_decide_eq_true (by kernel_rfl)) (.inr (by decide))
      have q1 : a'.tmps[13]?.getD undef = (.pointer (some ⟨bc, 0, none⟩)) := by have h2 : a'.tmps.getD 13 undef = (.pointer (some ⟨bc, 0, none⟩)) := e1; simpa using h2
      refine ⟨wanted_none rfl, op_callR (by simp [execOp, resolve, Deferred.ofValue, invoke, Act.eval, q1]) (drawBelow hc 3 (by omega) x hB.cur) ?_⟩
      rintro e z ⟨⟨v, rfl, v0, v1⟩, ci, ki⟩
      obtain ⟨k, rfl⟩ := Int.eq_ofNat_of_zero_le v0
      exact ⟨_, rfl, _, (), rfl, ⟨fun h2 h7 _ => by first | exact absurd rfl h2 | exact absurd rfl h7, fun _ => ki⟩, fun _ => hB.draw ci ki, fun u hu => ⟨k, hu (fun h => by cases h), by omega⟩⟩
    · cases ho
      obtain ⟨g, e0, hg, ht⟩ := hp 0 (of_decide_eq_true (by kernel_rfl)) (.inl rfl)
      obtain ⟨k, e2, hk⟩ := hp 2 (of_decide_eq_true (by kernel_rfl)) (.inr (by decide))
      have q0 : a'.tmps[12]?.getD undef = .slice (some ⟨g, 0, none⟩) 3 3 := by have h2 : a'.tmps.getD 12 undef = .slice (some ⟨g, 0, none⟩) 3 3 := e0; simpa using h2
      have q2 : a'.tmps[14]?.getD undef = .int .i64 (k : Int) := by have h2 : a'.tmps.getD 14 undef = .int .i64 (k : Int) := e2; simpa using h2
      refine ⟨wanted_none rfl, Oper.wp_mono (K := fun a'' w'' => a'' = a'.put (some 15) (.pointer (some ⟨g, k, none⟩)) ∧ w'' = x) ?_ ?_⟩
      · rintro _ _ ⟨rfl, rfl⟩
        exact ⟨_, (), rfl, ⟨fun _ _ _ => Below.refl _ _, fun _ => Keep.refl _ _⟩, fun h => hI (by have h' : (if (11 : Nat) = 3 then true else L 11) = false := h; simpa using h'), fun u hu => ⟨g, k, hu (fun h => by cases h), hk, hg, ht⟩⟩
      · unfold Oper.wp
        simp [go_sem, q0, q2, show (k : Int) < 3 by omega]
    · cases ho
      obtain ⟨g, k, e3, hk, hg, ht⟩ := hp 3 (of_decide_eq_true (by kernel_rfl)) (.inl rfl)
      have q3 : a'.tmps[15]?.getD undef = .pointer (some ⟨g, k, none⟩) := by have h2 : a'.tmps.getD 15 undef = .pointer (some ⟨g, k, none⟩) := e3; simpa using h2
      obtain ⟨z, fc⟩ := ht.2 k hk
      refine ⟨wanted_none rfl, Oper.wp_mono (K := fun a'' w'' => a'' = a'.put (some 16) (.int .i64 z) ∧ w'' = x) ?_ ?_⟩
      · rintro _ _ ⟨rfl, rfl⟩
        exact ⟨_, (), rfl, ⟨fun _ _ _ => Below.refl _ _, fun _ => Keep.refl _ _⟩, fun h => hI (by have h' : (if (11 : Nat) = 4 then true else L 11) = false := h; simpa using h'), fun u hu => ⟨z, hu (fun h => by cases h)⟩⟩
      · unfold Oper.wp
        simp [go_sem, q3, fc]
    · cases ho
      have hB := hI (hre 11 (by decide +kernel))
      refine ⟨wanted_none rfl, Oper.wp_mono (K := fun a'' w'' => a'' = a'.put (some 17) (.slice (some ⟨x.heap.size, 0, none⟩) 4 4) ∧ w'' = x.alloc (.cells #[.int .i64 0, .int .i64 1, .int .i64 1000000, .int .i64 1000001] 2)) ?_ ?_⟩
      · rintro _ _ ⟨rfl, rfl⟩
        exact ⟨_, (), rfl, ⟨fun _ _ _ => (Below.refl _ _).alloc (Nat.le_refl _) _, fun _ => (Keep.refl _ _).alloc _⟩, fun _ => hB.more _, fun u hu => ⟨x.heap.size, hu (fun h => by cases h), hB.cur.ne, TabAt.new x [0, 1, 1000000, 1000001] 2⟩⟩
      · unfold Oper.wp
        simp [go_sem]
    · cases ho
      refine ⟨wanted_none rfl, Oper.wp_mono (K := fun a'' w'' => a'' = a'.put (some 18) (.pointer (some ⟨bc, 0, none⟩)) ∧ w'' = x) ?_ ?_⟩
      · rintro _ _ ⟨rfl, rfl⟩
        exact ⟨_, (), rfl, ⟨fun _ _ _ => Below.refl _ _, fun _ => Keep.refl _ _⟩, fun h => hI (by have h' : (if (11 : Nat) = 6 then true else L 11) = false := h; simpa using h'), fun u hu => hu (fun h => by cases h)⟩
      · unfold Oper.wp
        simp [go_sem, s0]
    · cases ho
      have hB := hI (hre 11 (by decide +kernel))
      have e6 := hp 6 (of_decide_eq_true (by kernel_rfl)) (.inr (by decide))
      have q6 : a'.tmps[18]?.getD undef = (.pointer (some ⟨bc, 0, none⟩)) := by have h2 : a'.tmps.getD 18 undef = (.pointer (some ⟨bc, 0, none⟩)) := e6; simpa using h2
      refine ⟨wanted_none rfl, op_callR (by simp [execOp, resolve, Deferred.ofValue, invoke, Act.eval, q6]) (drawBelow hc 4 (by omega) x hB.cur) ?_⟩
      rintro e z ⟨⟨v, rfl, v0, v1⟩, ci, ki⟩
      obtain ⟨k, rfl⟩ := Int.eq_ofNat_of_zero_le v0
      exact ⟨_, rfl, _, (), rfl, ⟨fun h2 h7 _ => by first | exact absurd rfl h2 | exact absurd rfl h7, fun _ => ki⟩, fun _ => hB.draw ci ki, fun u hu => ⟨k, hu (fun h => by cases h), by omega⟩⟩
    · cases ho
      obtain ⟨g, e5, hg, ht⟩ := hp 5 (of_decide_eq_true (by kernel_rfl)) (.inl rfl)
      obtain ⟨k, e7, hk⟩ := hp 7 (of_decide_eq_true (by kernel_rfl)) (.inr (by decide))
      have q5 : a'.tmps[17]?.getD undef = .slice (some ⟨g, 0, none⟩) 4 4 := by have h2 : a'.tmps.getD 17 undef = .slice (some ⟨g, 0, none⟩) 4 4 := e5; simpa using h2
      have q7 : a'.tmps[19]?.getD undef = .int .i64 (k : Int) := by have h2 : a'.tmps.getD 19 undef = .int .i64 (k : Int) := e7; simpa using h2
      refine ⟨wanted_none rfl, Oper.wp_mono (K := fun a'' w'' => a'' = a'.put (some 20) (.pointer (some ⟨g, k, none⟩)) ∧ w'' = x) ?_ ?_⟩
      · rintro _ _ ⟨rfl, rfl⟩
        exact ⟨_, (), rfl, ⟨fun _ _ _ => Below.refl _ _, fun _ => Keep.refl _ _⟩, fun h => hI (by have h' : (if (11 : Nat) = 8 then true else L 11) = false := h; simpa using h'), fun u hu => ⟨g, k, hu (fun h => by cases h), hk, hg, ht⟩⟩
      · unfold Oper.wp
        simp [go_sem, q5, q7, show (k : Int) < 4 by omega]
    · cases ho
      obtain ⟨g, k, e8, hk, hg, ht⟩ := hp 8 (of_decide_eq_true (by kernel_rfl)) (.inl rfl)
      have q8 : a'.tmps[20]?.getD undef = .pointer (some ⟨g, k, none⟩) := by have h2 : a'.tmps.getD 20 undef = .pointer (some ⟨g, k, none⟩) := e8; simpa using h2
      obtain ⟨z, fc⟩ := ht.2 k hk
      refine ⟨wanted_none rfl, Oper.wp_mono (K := fun a'' w'' => a'' = a'.put (some 21) (.int .i64 z) ∧ w'' = x) ?_ ?_⟩
      · rintro _ _ ⟨rfl, rfl⟩
        exact ⟨_, (), rfl, ⟨fun _ _ _ => Below.refl _ _, fun _ => Keep.refl _ _⟩, fun h => hI (by have h' : (if (11 : Nat) = 9 then true else L 11) = false := h; simpa using h'), fun u hu => ⟨z, hu (fun h => by cases h)⟩⟩
      · unfold Oper.wp
        simp [go_sem, q8, fc]
    · cases ho
      obtain ⟨z, e4⟩ := hp 4 (of_decide_eq_true (by kernel_rfl)) (.inr (by decide))
      obtain ⟨z2, e9⟩ := hp 9 (of_decide_eq_true (by kernel_rfl)) (.inr (by decide))
      have q4 : a'.tmps[16]?.getD undef = .int .i64 z := by have h2 : a'.tmps.getD 16 undef = .int .i64 z := e4; simpa using h2
      have q9 : a'.tmps[21]?.getD undef = .int .i64 z2 := by have h2 : a'.tmps.getD 21 undef = .int .i64 z2 := e9; simpa using h2
      refine ⟨wanted_none rfl, Oper.wp_mono (K := fun a'' w'' => a'' = a'.put (some 22) (.agg #[.int .i64 z, .int .i64 z2]) ∧ w'' = x) ?_ ?_⟩
      · rintro _ _ ⟨rfl, rfl⟩
        exact ⟨_, (), rfl, ⟨fun _ _ _ => Below.refl _ _, fun _ => Keep.refl _ _⟩, fun h => hI (by have h' : (if (11 : Nat) = 10 then true else L 11) = false := h; simpa using h'), fun u hu => ⟨z, z2, hu (fun h => by cases h)⟩⟩
      · unfold Oper.wp
        simp [go_sem, q4, q9]
    · cases ho
      have hB := hI hLi
      obtain ⟨z, z2, e10⟩ := hp 10 (of_decide_eq_true (by kernel_rfl)) (.inr (by decide))
      have e10' : a'.tmps.getD 22 undef = .agg #[.int .i64 z, .int .i64 z2] := e10
      refine ⟨wanted_none rfl, wp_store_row 26 (.tmp 3) (.tmp 22) rfl B #[.int .i64 z, .int .i64 z2] s3 (by simpa [Act.eval] using e10') _ _ hB.rt (by kernel_rfl) rfl (duOnes _ _) ⟨undef, (), rfl, ⟨fun _ _ h => absurd rfl h, fun h => absurd rfl h⟩, (fun h => by simp at h), fun _ _ => ⟨z, z2, hB.fillB _⟩⟩⟩
  case last =>
  intro L a' y x hall hkp hI hp
  obtain ⟨z, z2, R3⟩ := hp 11 (by decide) (by decide)
  have HR3 : Hid (DrX 26 #[.int .i64 0, .int .i64 0] W bc a len cap w w.heap.size B #[.int .i64 z, .int .i64 z2] x) := R3
  have ha := hkp.pick [true, true, true, true, true, true, true, true, true, true, true, true, false, false, false, false, false, false, false, false, false, false, false, true] (by kernel_rfl)
  simp only [pickS] at ha
  clear hp hkp hI hall R3 XC
  generalize a'.tmps.getD 12 undef = y12 at ha
  generalize a'.tmps.getD 13 undef = y13 at ha
  generalize a'.tmps.getD 14 undef = y14 at ha
  generalize a'.tmps.getD 15 undef = y15 at ha
  generalize a'.tmps.getD 16 undef = y16 at ha
  generalize a'.tmps.getD 17 undef = y17 at ha
  generalize a'.tmps.getD 18 undef = y18 at ha
  generalize a'.tmps.getD 19 undef = y19 at ha
  generalize a'.tmps.getD 20 undef = y20 at ha
  generalize a'.tmps.getD 21 undef = y21 at ha
  generalize a'.tmps.getD 22 undef = y22 at ha
  rw [ha]
  clear ha
  go_wp2_with (first | (refine wpList_load_row rfl 26 (.tmp 3) rfl B rfl _ _ _ _ HR3.out.rt Try.underlying26 rfl (by kernel_rfl) ?_) | (refine wpList_store_row rfl 26 (.tmp 2) (.tmp 23) rfl w.heap.size _ rfl rfl _ _ HR3.out.res (by kernel_rfl) rfl (duOnes _ _) ?_))
  exact HR3.out.done Try.results16 rfl rfl Try.underlying26 (by kernel_rfl) ⟨⟨z, z2⟩, rfl⟩
end Go.Proofs.Ytkocbfikcjgigaa
