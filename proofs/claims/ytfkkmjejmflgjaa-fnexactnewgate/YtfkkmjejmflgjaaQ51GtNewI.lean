/-
  The walk of the program's NewGate. By the verifier, by program.
-/
import Derived.Test.YtfkkmjejmflgjaaQ45GtLvI
import Derived.Test.YtfkkmjejmflgjaaQ46GtRepX
import Derived.Test.YtfkkmjejmflgjaaQ21GtNewFn
import Derived.Test.YtfkkmjejmflgjaaQ47LnImpl
import Derived.Test.YtfkkmjejmflgjaaQ44NdOkI
import Derived.Test.YtfkkmjejmflgjaaQ48NdCpy
import Derived.Test.YtfkkmjejmflgjaaQ49IntOwn
import Derived.Test.YtfkkmjejmflgjaaQ50RepFw
import Derived.Test.YtfkkmjejmflgjaaQ26OpVal
namespace Go.Proofs.Ytfkkmjejmflgjaa
open Go.RowKit

theorem rtsNone (b t : Nat) (w : World) : RtsW b t w (.slice none 0 0) [] := ⟨⟨none, 0, rfl, fun h => absurd rfl h⟩, none, 0, rfl, Nat.le_refl _, fun _ => rfl⟩
theorem rusNone (b t : Nat) (w : World) : RusW b t w (.slice none 0 0) [] := ⟨⟨none, 0, rfl, fun h => absurd rfl h⟩, none, 0, rfl, Nat.le_refl _, fun _ => rfl⟩
theorem gtIn_none (b : Nat) (w : World) (hb : b ≤ w.heap.size) : GtIn b w.heap.size w (.agg #[.int .i64 0, .int .i64 0, .int .i64 0, .slice none 0 0, .slice none 0 0, .slice none 0 0, .slice none 0 0, .int .i64 0, .slice none 0 0, .slice none 0 0, .int .i64 0, .slice none 0 0, .int .i64 0, .int .i64 0]) Gt.zero := by
  refine ⟨⟨none, 0, none, 0, none, 0, none, 0, none, 0, none, 0, none, 0⟩, ⟨w.heap.size, w.heap.size, w.heap.size, w.heap.size, w.heap.size, w.heap.size, w.heap.size, w.heap.size, w.heap.size, w.heap.size, w.heap.size, w.heap.size, w.heap.size, w.heap.size⟩, rfl, ⟨RtsW.of_row (World.ownsRow_nil _ _ _ _), RusW.of_row (World.ownsRow_nil _ _ _ _), NdsW.of_row (World.ownsRow_nil _ _ _ _), IntsW.of_row (World.ownsRow_nil _ _ _ _), ⟨none, 0, rfl, [], (IzG.nil _ _).done⟩, SrsW.of_row (World.ownsRow_nil _ _ _ _), ⟨none, 0, rfl, [], (FwG.nil _ _).done⟩⟩, ?_, ?_, Nat.le_refl _⟩
  · constructor <;> (try simp only) <;> omega
  · constructor <;> exact .inl (Nat.le_refl _)

set_option maxHeartbeats 12800000 in
set_option maxRecDepth 100000 in
theorem implNewGate (l : Ln) (t : List Nd) (ta : Option Addr) (tc : Nat) (ls : List Int) (la : Option Addr) (lc : Nat) (w : World) (hT : t.length ≤ 1048576) (hL : ls.length ≤ 1048576) (htc : t.length ≤ tc) (hn0 : ta = none → tc = 0) (ht : Hid (NdsAt w ta t)) (hl : Hid (IntsAt w la ls)) :
    Calls Try.prog 9 #[l.val, .slice ta t.length tc, .slice la ls.length lc] w fun e w' => (∃ v', e = .returned (.tuple #[v', .bool (newB l t ls)]) ∧ GtIn w.heap.size w'.heap.size w' v' (newGate l t ls)) ∧ Below w.heap.size w w' := by
  have A1 := fun w => implLineOk l w
  have A2 := fun w h => implTreeOk t ta tc w hT htc hn0 h
  have A3 := fun w h => implLeavesOk ls la lc t.length w hT hL h
  have A4 := fun w h => implCopyNd ta tc t w hT h
  have A5 : ∀ w, Hid (IntsAt w la ls) → Calls Try.prog 23 #[.slice la ls.length lc] w fun e w' => (∃ p c, e = .returned (.slice p ls.length c) ∧ IRow w.heap.size w' (.slice p ls.length c) ls) ∧ Below w.heap.size w w' := fun w h => (implCopyN la lc ls w h hL).mono fun e w' hh => by
    obtain ⟨v, rfl, r, q⟩ := hh
    obtain ⟨p, c, rfl⟩ := r.shape
    exact ⟨⟨p, c, rfl, r⟩, q⟩
  have Hsm : Hid (newB l t ls = true → 1 ≤ ls.length ∧ ls.length ≤ 8) := fun h => newB_small h
  have Hno : Hid (newB l t ls = false → newGate l t ls = Gt.zero) := fun e => by unfold newGate; rw [e]; rfl
  have Hyes : Hid (newB l t ls = true → newGate l t ls = newG l t ls) := fun e => by unfold newGate; rw [if_pos e]
  have Hb : Hid (newB l t ls = (l.ok && (tok t && lvOk ls t.length))) := newB_is l t ls
  obtain ⟨n, hn⟩ : ∃ n, ls.length = n := ⟨_, rfl⟩
  obtain ⟨tn, htn⟩ : ∃ n, t.length = n := ⟨_, rfl⟩
  rw [htn] at A2 A3 A4 Hb hT htc ⊢
  rw [hn] at A3 A5 Hsm hL ⊢
  have Hn : Hid (ls.length = n) := hn
  have Htn : Hid (t.length = tn) := htn
  generalize newGate l t ls = ga at Hno Hyes ⊢
  generalize newB l t ls = fl at Hno Hyes Hsm Hb ⊢
  generalize lvOk ls tn = b3 at A3 Hb
  generalize tok t = b2 at A2 Hb
  generalize l.ok = b1 at A1 Hb
  obtain ⟨kd, ex, le⟩ := l
  simp only [Ln.val] at A1 ⊢
  have A1' : Hid _ := A1
  have A2' : Hid _ := A2
  have A3' : Hid _ := A3
  have A4' : Hid _ := A4
  have A5' : Hid _ := A5
  obtain ⟨A, hA⟩ : ∃ A, A = w.heap.size := ⟨_, rfl⟩
  obtain ⟨W0, hW⟩ : ∃ W, W = (w.alloc (.cells #[.int .i64 kd, .int .i64 ex, .int .i64 le] 27)).alloc (.cells #[.int .i64 0, .int .i64 0, .int .i64 0, .slice none 0 0, .slice none 0 0, .slice none 0 0, .slice none 0 0, .int .i64 0, .slice none 0 0, .slice none 0 0, .int .i64 0, .slice none 0 0, .int .i64 0, .int .i64 0] 39) := ⟨_, rfl⟩
  have X0 : Hid (Boxed W0 A #[.int .i64 kd, .int .i64 ex, .int .i64 le] 27 ∧ Boxed W0 (A + 1) #[.int .i64 0, .int .i64 0, .int .i64 0, .slice none 0 0, .slice none 0 0, .slice none 0 0, .slice none 0 0, .int .i64 0, .slice none 0 0, .slice none 0 0, .int .i64 0, .slice none 0 0, .int .i64 0, .int .i64 0] 39 ∧ Below w.heap.size w W0) := by
    rw [hW, hA]
    refine ⟨(Boxed.new w _ _).more _, ?_, ((Below.refl _ _).alloc (Nat.le_refl _) _).alloc (by simp) _⟩
    have := Boxed.new (w.alloc (.cells #[.int .i64 kd, .int .i64 ex, .int .i64 le] 27)) #[.int .i64 0, .int .i64 0, .int .i64 0, .slice none 0 0, .slice none 0 0, .slice none 0 0, .slice none 0 0, .int .i64 0, .slice none 0 0, .slice none 0 0, .int .i64 0, .slice none 0 0, .int .i64 0, .int .i64 0] 39
    simpa using this
  have HW : Hid (W0 = _) := hW
  have HA : Hid (A = w.heap.size) := hA
  have KN : Hid (∀ W, Below w.heap.size w W → NdsAt W ta t ∧ IntsAt W la ls) := fun W q => ⟨ht.out.below q, hl.out.below q⟩
  have Stp : Hid (∀ W W', (Boxed W A #[.int .i64 kd, .int .i64 ex, .int .i64 le] 27 ∧ Boxed W (A + 1) #[.int .i64 0, .int .i64 0, .int .i64 0, .slice none 0 0, .slice none 0 0, .slice none 0 0, .slice none 0 0, .int .i64 0, .slice none 0 0, .slice none 0 0, .int .i64 0, .slice none 0 0, .int .i64 0, .int .i64 0] 39 ∧ Below w.heap.size w W) → Below W.heap.size W W' → (Boxed W' A #[.int .i64 kd, .int .i64 ex, .int .i64 le] 27 ∧ Boxed W' (A + 1) #[.int .i64 0, .int .i64 0, .int .i64 0, .slice none 0 0, .slice none 0 0, .slice none 0 0, .slice none 0 0, .int .i64 0, .slice none 0 0, .slice none 0 0, .int .i64 0, .slice none 0 0, .int .i64 0, .int .i64 0] 39 ∧ Below w.heap.size w W')) := fun W W' h q => ⟨h.1.below h.1.under q, h.2.1.below h.2.1.under q, h.2.2.trans (q.mono h.2.2.size)⟩
  clear hn htn hW hA A1 A2 A3 A4 A5 ht hl htc hn0
  have htn0 : (tn : Int) ≤ 1048576 := by omega
  go_enter Try.func9, Try.ntmps9
  go_upto_region 1 with fail
  rw [← HW.out, ← HA.out]
  clear HW
  go_wp2_with (refine wpList_load_row rfl 27 (.tmp 3) rfl A rfl _ _ _ _ X0.out.1 Try.underlying27 rfl (by kernel_rfl) ?_)
  refine (A1'.out _).mono ?_
  rintro e w1 ⟨rfl, q⟩
  have X1 : Hid _ := Stp.out _ _ X0.out q
  clear q X0 A1'
  cases b1
  · have e1 : fl = false := by rw [Hb.out]; rfl
    subst e1
    have E2 : Hid (ga = Gt.zero) := Hno.out rfl
    clear Hno Hyes Hsm Hb
    go_wp2_with (refine wpList_store_row rfl 39 (.tmp 6) (.tmp 24) rfl (A + 1) #[.int .i64 0, .int .i64 0, .int .i64 0, .slice none 0 0, .slice none 0 0, .slice none 0 0, .slice none 0 0, .int .i64 0, .slice none 0 0, .slice none 0 0, .int .i64 0, .slice none 0 0, .int .i64 0, .int .i64 0] rfl rfl _ _ X1.out.2.1 (by kernel_rfl) rfl (by simp [Value.oneCell']) ?_)
    refine bodyPost_ret (results_row_tmp Try.results9 _ _ (A + 1) _ #[.int .i64 0, .int .i64 0, .int .i64 0, .slice none 0 0, .slice none 0 0, .slice none 0 0, .slice none 0 0, .int .i64 0, .slice none 0 0, .slice none 0 0, .int .i64 0, .slice none 0 0, .int .i64 0, .int .i64 0] _ _ (.bool false) rfl rfl (setRow_heap w1 (A + 1) _ _ _ _ X1.out.2.1) Try.underlying39 rfl (by kernel_rfl)) rfl ⟨⟨_, rfl, ?_⟩, below_setRow X1.out.2.2 (by rw [HA.out]; omega) _⟩
    rw [E2.out]
    exact gtIn_none _ _ (by simp; have := X1.out.2.2.size; omega)
  go_wp2_with fail
  refine (A2'.out _ (KN.out _ X1.out.2.2).1).mono ?_
  rintro e w2 ⟨rfl, q⟩
  have X2 : Hid _ := Stp.out _ _ X1.out q
  clear q X1 A2'
  cases b2
  · have e1 : fl = false := by rw [Hb.out]; rfl
    subst e1
    have E2 : Hid (ga = Gt.zero) := Hno.out rfl
    clear Hno Hyes Hsm Hb
    go_wp2_with (refine wpList_store_row rfl 39 (.tmp 6) (.tmp 24) rfl (A + 1) #[.int .i64 0, .int .i64 0, .int .i64 0, .slice none 0 0, .slice none 0 0, .slice none 0 0, .slice none 0 0, .int .i64 0, .slice none 0 0, .slice none 0 0, .int .i64 0, .slice none 0 0, .int .i64 0, .int .i64 0] rfl rfl _ _ X2.out.2.1 (by kernel_rfl) rfl (by simp [Value.oneCell']) ?_)
    refine bodyPost_ret (results_row_tmp Try.results9 _ _ (A + 1) _ #[.int .i64 0, .int .i64 0, .int .i64 0, .slice none 0 0, .slice none 0 0, .slice none 0 0, .slice none 0 0, .int .i64 0, .slice none 0 0, .slice none 0 0, .int .i64 0, .slice none 0 0, .int .i64 0, .int .i64 0] _ _ (.bool false) rfl rfl (setRow_heap w2 (A + 1) _ _ _ _ X2.out.2.1) Try.underlying39 rfl (by kernel_rfl)) rfl ⟨⟨_, rfl, ?_⟩, below_setRow X2.out.2.2 (by rw [HA.out]; omega) _⟩
    rw [E2.out]
    exact gtIn_none _ _ (by simp; have := X2.out.2.2.size; omega)
  go_wp2_with fail
  refine (A3'.out _ (KN.out _ X2.out.2.2).2).mono ?_
  rintro e w3 ⟨rfl, q⟩
  have X3 : Hid _ := Stp.out _ _ X2.out q
  clear q X2 A3'
  cases b3
  · have e1 : fl = false := by rw [Hb.out]; rfl
    subst e1
    have E2 : Hid (ga = Gt.zero) := Hno.out rfl
    clear Hno Hyes Hsm Hb
    go_wp2_with (refine wpList_store_row rfl 39 (.tmp 6) (.tmp 24) rfl (A + 1) #[.int .i64 0, .int .i64 0, .int .i64 0, .slice none 0 0, .slice none 0 0, .slice none 0 0, .slice none 0 0, .int .i64 0, .slice none 0 0, .slice none 0 0, .int .i64 0, .slice none 0 0, .int .i64 0, .int .i64 0] rfl rfl _ _ X3.out.2.1 (by kernel_rfl) rfl (by simp [Value.oneCell']) ?_)
    refine bodyPost_ret (results_row_tmp Try.results9 _ _ (A + 1) _ #[.int .i64 0, .int .i64 0, .int .i64 0, .slice none 0 0, .slice none 0 0, .slice none 0 0, .slice none 0 0, .int .i64 0, .slice none 0 0, .slice none 0 0, .int .i64 0, .slice none 0 0, .int .i64 0, .int .i64 0] _ _ (.bool false) rfl rfl (setRow_heap w3 (A + 1) _ _ _ _ X3.out.2.1) Try.underlying39 rfl (by kernel_rfl)) rfl ⟨⟨_, rfl, ?_⟩, below_setRow X3.out.2.2 (by rw [HA.out]; omega) _⟩
    rw [E2.out]
    exact gtIn_none _ _ (by simp; have := X3.out.2.2.size; omega)
  have e1 : fl = true := by rw [Hb.out]; rfl
  subst e1
  obtain ⟨hn1, hn8⟩ := Hsm.out rfl
  have E2 : Hid (ga = newG ⟨kd, ex, le⟩ t ls) := Hyes.out rfl
  clear Hno Hyes Hsm Hb
  obtain ⟨S, hS⟩ : ∃ S, w3.heap.size = S := ⟨_, rfl⟩
  have HS : Hid (w3.heap.size = S ∧ A + 2 ≤ S) := ⟨hS, by have := X3.out.2.1.under; omega⟩
  have R0 : Hid (∀ y, Below w3.heap.size w3 y → (Boxed y A #[.int .i64 kd, .int .i64 ex, .int .i64 le] 27 ∧ Boxed y (A + 1) #[.int .i64 0, .int .i64 0, .int .i64 0, .slice none 0 0, .slice none 0 0, .slice none 0 0, .slice none 0 0, .int .i64 0, .slice none 0 0, .slice none 0 0, .int .i64 0, .slice none 0 0, .int .i64 0, .int .i64 0] 39 ∧ Below w.heap.size w y) ∧ NdsAt y ta t ∧ IntsAt y la ls ∧ S ≤ y.heap.size) := fun y q => by
    have h := Stp.out _ _ X3.out q
    exact ⟨h, (KN.out _ h.2.2).1, (KN.out _ h.2.2).2, by rw [← hS]; exact q.size⟩
  clear hS
  go_upto_region 4 with fail
  refine region_lists (G := Gf) (by kernel_rfl) (by kernel_rfl) (by kernel_rfl) (fun i => if i = 0 then 17 else if i = 1 then 2 else if i = 2 then 17 else if i = 3 then 4 else if i = 4 then 17 else if i = 5 then 6 else if i = 6 then 7 else if i = 7 then 17 else if i = 8 then 9 else if i = 9 then 11 else if i = 10 then 11 else if i = 11 then 17 else if i = 12 then 13 else if i = 13 then 15 else if i = 14 then 15 else if i = 15 then 16 else if i = 16 then 17 else if i = 17 then 18 else 99) (fun (L : Nat → Bool) (f : Gf) (x : World) => (L 18 = false → Below w3.heap.size w3 x ∧ f.In S x.heap.size ∧ f.Apart) ∧ (L 18 = true → ∃ x' : Ga, GtIn w.heap.size x.heap.size x ((newG ⟨kd, ex, le⟩ t ls).val x') (newG ⟨kd, ex, le⟩ t ls) ∧ Boxed x (A + 1) ((newG ⟨kd, ex, le⟩ t ls).cells x') 39 ∧ Below w.heap.size w x)) (fun i (f : Gf) x (f' : Gf) x' => (i ≠ 18 → Below x.heap.size x x') ∧ (i ≠ 2 → f'.b3 = f.b3 ∧ f'.t3 = f.t3) ∧ (i ≠ 4 → f'.b4 = f.b4 ∧ f'.t4 = f.t4) ∧ (i ≠ 6 → f'.b5 = f.b5 ∧ f'.t5 = f.t5) ∧ (i ≠ 11 → f'.b6 = f.b6 ∧ f'.t6 = f.t6) ∧ (i ≠ 15 → f'.b7 = f.b7 ∧ f'.t7 = f.t7) ∧ (i ≠ 18 → f'.b1 = f.b1 ∧ f'.t1 = f.t1 ∧ f'.b2 = f.b2 ∧ f'.t2 = f.t2)) (fun i y x u => ([fun _ _ u => u = .agg #[.int .i64 kd, .int .i64 ex, .int .i64 le], fun _ _ u => u = .slice ta tn tc, fun f x u => ∃ p c, u = .slice p tn c ∧ NdsW f.b3 f.t3 x (.slice p tn c) t, fun _ _ u => u = .slice la n lc, fun f x u => ∃ p c, u = .slice p n c ∧ IntsW f.b4 f.t4 x (.slice p n c) ls, fun _ _ u => u = .int .i64 n, fun f x u => ∃ p, u = .slice p n n ∧ RwIn f.b5 f.t5 x (.agg #[.int .i64 100, .slice p n n]) ⟨100, List.replicate n []⟩, fun f x u => ∃ p, u = .agg #[.int .i64 100, .slice p n n] ∧ RwIn f.b5 f.t5 x (.agg #[.int .i64 100, .slice p n n]) ⟨100, List.replicate n []⟩, fun _ _ u => u = .agg #[.int .i64 20, .int .i64 0, .int .i64 0], fun _ x u => ∃ m, u = .slice (some ⟨m, 0, none⟩) 1 1 ∧ Boxed x m #[.int .i64 20, .int .i64 0, .int .i64 0] 53, fun _ _ u => u = .int .i64 n, fun f x u => ∃ p, u = .slice p n n ∧ SrsW f.b6 f.t6 x (.slice p n n) (List.replicate n ⟨20, 0, 0⟩), fun _ _ u => u = .agg #[.int .i64 1, .int .i64 0, .slice none 0 0], fun _ x u => ∃ m, u = .slice (some ⟨m, 0, none⟩) 1 1 ∧ Boxed x m #[.int .i64 1, .int .i64 0, .slice none 0 0] 55, fun _ _ u => u = .int .i64 n, fun f x u => ∃ p, u = .slice p n n ∧ FsIn f.b7 f.t7 x (.agg #[.int .i64 0, .slice p n n]) ⟨0, List.replicate n ⟨1, 0, []⟩⟩, fun f x u => ∃ p, u = .agg #[.int .i64 0, .slice p n n] ∧ FsIn f.b7 f.t7 x (.agg #[.int .i64 0, .slice p n n]) ⟨0, List.replicate n ⟨1, 0, []⟩⟩, fun f x u => ∃ x', u = (newG ⟨kd, ex, le⟩ t ls).val x' ∧ GtW x x' f (newG ⟨kd, ex, le⟩ t ls), fun _ _ _ => True, fun _ _ u => u = .bool true] : List (Gf → World → Value → Prop)).getD i (fun _ _ _ => True) y x u) ?hR ⟨S, S, S, S, S, S, S, S, S, S, S, S, S, S⟩ ?h0 ?step ?last
  case hR =>
    intro i j y y' x x' u hi hj hne hu h1 h2 hp hr
    have hi' : i < 20 := hi
    have hj' : j < 20 := hj
    have hcases : j = 0 ∨ j = 1 ∨ j = 2 ∨ j = 3 ∨ j = 4 ∨ j = 5 ∨ j = 6 ∨ j = 7 ∨ j = 8 ∨ j = 9 ∨ j = 10 ∨ j = 11 ∨ j = 12 ∨ j = 13 ∨ j = 14 ∨ j = 15 ∨ j = 16 ∨ j = 17 ∨ j = 18 ∨ j = 19 := by omega
    rcases hcases with rfl | rfl | rfl | rfl | rfl | rfl | rfl | rfl | rfl | rfl | rfl | rfl | rfl | rfl | rfl | rfl | rfl | rfl | rfl | rfl
    · exact hp
    · exact hp
    · have hi18 : i ≠ 18 := by
        rintro rfl
        first | exact absurd rfl hu | exact absurd h2 (by decide +kernel)
      have q := hr.1 hi18
      obtain ⟨p, c, e, h⟩ := hp
      obtain ⟨f1, f2⟩ := hr.2.1 (fun e => hne e)
      exact ⟨p, c, e, by rw [f1, f2]; exact h.below q⟩
    · exact hp
    · have hi18 : i ≠ 18 := by
        rintro rfl
        first | exact absurd rfl hu | exact absurd h2 (by decide +kernel)
      have q := hr.1 hi18
      obtain ⟨p, c, e, h⟩ := hp
      obtain ⟨f1, f2⟩ := hr.2.2.1 (fun e => hne e)
      exact ⟨p, c, e, by rw [f1, f2]; exact h.below q⟩
    · exact hp
    · have hi18 : i ≠ 18 := by
        rintro rfl
        first | exact absurd rfl hu | exact absurd h2 (by decide +kernel)
      have q := hr.1 hi18
      obtain ⟨p, e, h⟩ := hp
      obtain ⟨f1, f2⟩ := hr.2.2.2.1 (fun e => hne e)
      exact ⟨p, e, by rw [f1, f2]; exact h.below q⟩
    · have hi18 : i ≠ 18 := by
        rintro rfl
        first | exact absurd rfl hu | exact absurd h2 (by decide +kernel)
      have q := hr.1 hi18
      obtain ⟨p, e, h⟩ := hp
      obtain ⟨f1, f2⟩ := hr.2.2.2.1 (by rintro rfl; exact absurd h1 (by decide +kernel))
      exact ⟨p, e, by rw [f1, f2]; exact h.below q⟩
    · exact hp
    · have hi18 : i ≠ 18 := by
        rintro rfl
        first | exact absurd rfl hu | exact absurd h2 (by decide +kernel)
      have q := hr.1 hi18
      obtain ⟨m, e, h⟩ := hp
      exact ⟨m, e, h.below h.under q⟩
    · exact hp
    · have hi18 : i ≠ 18 := by
        rintro rfl
        first | exact absurd rfl hu | exact absurd h2 (by decide +kernel)
      have q := hr.1 hi18
      obtain ⟨p, e, h⟩ := hp
      obtain ⟨f1, f2⟩ := hr.2.2.2.2.1 (fun e => hne e)
      exact ⟨p, e, by rw [f1, f2]; exact h.below q⟩
    · exact hp
    · have hi18 : i ≠ 18 := by
        rintro rfl
        first | exact absurd rfl hu | exact absurd h2 (by decide +kernel)
      have q := hr.1 hi18
      obtain ⟨m, e, h⟩ := hp
      exact ⟨m, e, h.below h.under q⟩
    · exact hp
    · have hi18 : i ≠ 18 := by
        rintro rfl
        first | exact absurd rfl hu | exact absurd h2 (by decide +kernel)
      have q := hr.1 hi18
      obtain ⟨p, e, h⟩ := hp
      obtain ⟨f1, f2⟩ := hr.2.2.2.2.2.1 (fun e => hne e)
      exact ⟨p, e, by rw [f1, f2]; exact h.below q⟩
    · have hi18 : i ≠ 18 := by
        rintro rfl
        first | exact absurd rfl hu | exact absurd h2 (by decide +kernel)
      have q := hr.1 hi18
      obtain ⟨p, e, h⟩ := hp
      obtain ⟨f1, f2⟩ := hr.2.2.2.2.2.1 (by rintro rfl; exact absurd h1 (by decide +kernel))
      exact ⟨p, e, by rw [f1, f2]; exact h.below q⟩
    · have hi18 : i ≠ 18 := by
        rintro rfl
        first | exact absurd rfl hu | exact absurd h2 (by decide +kernel)
      have q := hr.1 hi18
      have f1 := hr.2.1 (by rintro rfl; exact absurd h1 (by decide +kernel))
      have f2 := hr.2.2.1 (by rintro rfl; exact absurd h1 (by decide +kernel))
      have f3 := hr.2.2.2.1 (by rintro rfl; exact absurd h1 (by decide +kernel))
      have f4 := hr.2.2.2.2.1 (by rintro rfl; exact absurd h1 (by decide +kernel))
      have f5 := hr.2.2.2.2.2.1 (by rintro rfl; exact absurd h1 (by decide +kernel))
      have f6 := hr.2.2.2.2.2.2 hi18
      have ey : y' = y := by
        obtain ⟨⟩ := y
        obtain ⟨⟩ := y'
        simp only at f1 f2 f3 f4 f5 f6
        simp only [f1, f2, f3, f4, f5, f6]
      obtain ⟨x1, e, h⟩ := hp
      exact ⟨x1, e, by rw [ey]; exact h.below q⟩
    · exact hp
    · exact hp
  case h0 => exact ⟨fun _ => ⟨(Below.refl _ _).drew, ⟨Nat.le_refl _, Nat.le_of_eq HS.out.1.symm, Nat.le_refl _, Nat.le_of_eq HS.out.1.symm, Nat.le_refl _, Nat.le_of_eq HS.out.1.symm, Nat.le_refl _, Nat.le_of_eq HS.out.1.symm, Nat.le_refl _, Nat.le_of_eq HS.out.1.symm, Nat.le_refl _, Nat.le_of_eq HS.out.1.symm, Nat.le_refl _, Nat.le_of_eq HS.out.1.symm⟩, by constructor <;> exact .inl (Nat.le_refl _)⟩, fun h => by simp at h⟩
  case step =>
    intro i o hi ho L a' y x hLi hwt hre hkp hI hp
    have s1 : a'.tmps[1]?.getD undef = .slice ta tn tc := by have h2 : a'.tmps.getD 1 undef = .slice ta tn tc := hkp.slot 1 (by kernel_rfl); simpa using h2
    have s2 : a'.tmps[2]?.getD undef = .slice la n lc := by have h2 : a'.tmps.getD 2 undef = .slice la n lc := hkp.slot 2 (by kernel_rfl); simpa using h2
    have s3 : a'.tmps[3]?.getD undef = .pointer (some ⟨A, 0, none⟩) := by have h2 : a'.tmps.getD 3 undef = .pointer (some ⟨A, 0, none⟩) := hkp.slot 3 (by kernel_rfl); simpa using h2
    have s6 : a'.tmps[6]?.getD undef = .pointer (some ⟨A + 1, 0, none⟩) := by have h2 : a'.tmps.getD 6 undef = .pointer (some ⟨A + 1, 0, none⟩) := hkp.slot 6 (by kernel_rfl); simpa using h2
    have s8 : a'.tmps[8]?.getD undef = .int .i64 n := by have h2 : a'.tmps.getD 8 undef = .int .i64 n := hkp.slot 8 (by kernel_rfl); simpa using h2
    have hi' : i < 20 := hi
    have hcases : i = 0 ∨ i = 1 ∨ i = 2 ∨ i = 3 ∨ i = 4 ∨ i = 5 ∨ i = 6 ∨ i = 7 ∨ i = 8 ∨ i = 9 ∨ i = 10 ∨ i = 11 ∨ i = 12 ∨ i = 13 ∨ i = 14 ∨ i = 15 ∨ i = 16 ∨ i = 17 ∨ i = 18 ∨ i = 19 := by omega
    rcases hcases with rfl | rfl | rfl | rfl | rfl | rfl | rfl | rfl | rfl | rfl | rfl | rfl | rfl | rfl | rfl | rfl | rfl | rfl | rfl | rfl
    · cases ho
      have n18 : L 18 = false := hre 18 (by decide +kernel)
      obtain ⟨hB, hIn, hAp⟩ := hI.1 n18
      obtain ⟨⟨b1, b2, b3⟩, b4, b5, b6⟩ := R0.out x hB
      exact ⟨wanted_none rfl, wp_load_row 27 (.tmp 3) rfl A (by simpa [Act.eval] using s3) _ _ _ _ b1 Try.underlying27 rfl (by kernel_rfl) ⟨_, y, rfl, ⟨fun _ => Below.refl _ _, fun _ => ⟨rfl, rfl⟩, fun _ => ⟨rfl, rfl⟩, fun _ => ⟨rfl, rfl⟩, fun _ => ⟨rfl, rfl⟩, fun _ => ⟨rfl, rfl⟩, fun _ => ⟨rfl, rfl, rfl, rfl⟩⟩, ⟨fun h => hI.1 (by simpa using h), fun h => hI.2 (by simpa using h)⟩, fun u hu => hu (fun h => by cases h)⟩⟩
    · cases ho
      refine ⟨wanted_none rfl, Oper.wp_mono (K := fun a'' w'' => a'' = a'.put (some 28) (.slice ta tn tc) ∧ w'' = x) ?_ ?_⟩
      · rintro _ _ ⟨rfl, rfl⟩
        exact ⟨_, y, rfl, ⟨fun _ => Below.refl _ _, fun _ => ⟨rfl, rfl⟩, fun _ => ⟨rfl, rfl⟩, fun _ => ⟨rfl, rfl⟩, fun _ => ⟨rfl, rfl⟩, fun _ => ⟨rfl, rfl⟩, fun _ => ⟨rfl, rfl, rfl, rfl⟩⟩, ⟨fun h => hI.1 (by simpa using h), fun h => hI.2 (by simpa using h)⟩, fun u hu => hu (fun h => by cases h)⟩
      · unfold Oper.wp
        simp [go_sem, s1]
    · cases ho
      have n18 : L 18 = false := hre 18 (by decide +kernel)
      obtain ⟨hB, hIn, hAp⟩ := hI.1 n18
      obtain ⟨⟨b1, b2, b3⟩, b4, b5, b6⟩ := R0.out x hB
      have q1 : a'.tmps[28]?.getD undef = .slice ta tn tc := by have h2 : a'.tmps.getD 28 undef = .slice ta tn tc := hp 1 (of_decide_eq_true (by kernel_rfl)) (.inl rfl); simpa using h2
      refine ⟨wanted_none rfl, op_callR (f := 22) (args := #[.slice ta tn tc]) (by simp [execOp, resolve, Deferred.ofValue, invoke, Act.eval, q1]) (A4'.out x b4) ?_⟩
      rintro e x1 ⟨g, rfl, hr2, q⟩
      have m2 : NdsW x.heap.size x1.heap.size x1 (.slice (some ⟨g, 0, none⟩) tn tn) t := by
        have := NdsW.of_row hr2
        exact this
      exact ⟨_, rfl, _, { y with b3 := x.heap.size, t3 := x1.heap.size }, rfl, ⟨fun _ => q, fun h => absurd rfl h, fun _ => ⟨rfl, rfl⟩, fun _ => ⟨rfl, rfl⟩, fun _ => ⟨rfl, rfl⟩, fun _ => ⟨rfl, rfl⟩, fun _ => ⟨rfl, rfl, rfl, rfl⟩⟩, ⟨fun _ => ⟨hB.trans (q.mono hB.size), hIn.lay3 b6 q.size, hAp.lay3 hIn⟩, fun h => absurd (show L 18 = true by simpa using h) (by rw [n18]; decide)⟩, fun u hu => ⟨_, _, hu (fun h => by cases h), m2⟩⟩
    · cases ho
      refine ⟨wanted_none rfl, Oper.wp_mono (K := fun a'' w'' => a'' = a'.put (some 30) (.slice la n lc) ∧ w'' = x) ?_ ?_⟩
      · rintro _ _ ⟨rfl, rfl⟩
        exact ⟨_, y, rfl, ⟨fun _ => Below.refl _ _, fun _ => ⟨rfl, rfl⟩, fun _ => ⟨rfl, rfl⟩, fun _ => ⟨rfl, rfl⟩, fun _ => ⟨rfl, rfl⟩, fun _ => ⟨rfl, rfl⟩, fun _ => ⟨rfl, rfl, rfl, rfl⟩⟩, ⟨fun h => hI.1 (by simpa using h), fun h => hI.2 (by simpa using h)⟩, fun u hu => hu (fun h => by cases h)⟩
      · unfold Oper.wp
        simp [go_sem, s2]
    · cases ho
      have n18 : L 18 = false := hre 18 (by decide +kernel)
      obtain ⟨hB, hIn, hAp⟩ := hI.1 n18
      obtain ⟨⟨b1, b2, b3⟩, b4, b5, b6⟩ := R0.out x hB
      have q3 : a'.tmps[30]?.getD undef = .slice la n lc := by have h2 : a'.tmps.getD 30 undef = .slice la n lc := hp 3 (of_decide_eq_true (by kernel_rfl)) (.inl rfl); simpa using h2
      refine ⟨wanted_none rfl, op_callR (f := 23) (args := #[.slice la n lc]) (by simp [execOp, resolve, Deferred.ofValue, invoke, Act.eval, q3]) (A5'.out x b5) ?_⟩
      rintro e x1 ⟨⟨p, c, rfl, hr2⟩, q⟩
      have m2 : IntsW x.heap.size x1.heap.size x1 (.slice p n c) ls := IntsW.of_row hr2
      exact ⟨_, rfl, _, { y with b4 := x.heap.size, t4 := x1.heap.size }, rfl, ⟨fun _ => q, fun _ => ⟨rfl, rfl⟩, fun h => absurd rfl h, fun _ => ⟨rfl, rfl⟩, fun _ => ⟨rfl, rfl⟩, fun _ => ⟨rfl, rfl⟩, fun _ => ⟨rfl, rfl, rfl, rfl⟩⟩, ⟨fun _ => ⟨hB.trans (q.mono hB.size), hIn.lay4 b6 q.size, hAp.lay4 hIn⟩, fun h => absurd (show L 18 = true by simpa using h) (by rw [n18]; decide)⟩, fun u hu => ⟨_, _, hu (fun h => by cases h), m2⟩⟩
    · cases ho
      refine ⟨wanted_none rfl, Oper.wp_mono (K := fun a'' w'' => a'' = a'.put (some 32) (.int .i64 n) ∧ w'' = x) ?_ ?_⟩
      · rintro _ _ ⟨rfl, rfl⟩
        exact ⟨_, y, rfl, ⟨fun _ => Below.refl _ _, fun _ => ⟨rfl, rfl⟩, fun _ => ⟨rfl, rfl⟩, fun _ => ⟨rfl, rfl⟩, fun _ => ⟨rfl, rfl⟩, fun _ => ⟨rfl, rfl⟩, fun _ => ⟨rfl, rfl, rfl, rfl⟩⟩, ⟨fun h => hI.1 (by simpa using h), fun h => hI.2 (by simpa using h)⟩, fun u hu => hu (fun h => by cases h)⟩
      · unfold Oper.wp
        simp [go_sem, s8]
    · cases ho
      have n18 : L 18 = false := hre 18 (by decide +kernel)
      obtain ⟨hB, hIn, hAp⟩ := hI.1 n18
      obtain ⟨⟨b1, b2, b3⟩, b4, b5, b6⟩ := R0.out x hB
      have q5 : a'.tmps[32]?.getD undef = .int .i64 n := by have h2 : a'.tmps.getD 32 undef = .int .i64 n := hp 5 (of_decide_eq_true (by kernel_rfl)) (.inl rfl); simpa using h2
      have q : Below x.heap.size x (x.alloc (.cells (madeCells #[.slice none 0 0] (n * 1)) 88)) := (Below.refl _ _).alloc (Nat.le_refl _) _
      have m2 : RwIn x.heap.size (x.alloc (.cells (madeCells #[.slice none 0 0] (n * 1)) 88)).heap.size (x.alloc (.cells (madeCells #[.slice none 0 0] (n * 1)) 88)) (.agg #[.int .i64 100, .slice (some ⟨x.heap.size, 0, none⟩) n n]) ⟨100, List.replicate n []⟩ := by
        have z := (izMadeG x x.heap.size n (by omega) (Nat.le_refl _)).done
        refine ⟨some ⟨x.heap.size, 0, none⟩, n, by unfold Rw.val; simp only [List.length_replicate], List.replicate n (.slice none 0 0), ?_⟩
        rw [List.length_replicate]
        exact z
      refine ⟨wanted_none rfl, op_valY (v := .slice (some ⟨x.heap.size, 0, none⟩) n n) (w' := x.alloc (.cells (madeCells #[.slice none 0 0] (n * 1)) 88)) (by simp [execOp, Act.eval, q5, izMake n (by omega) x]) ?_⟩
      exact ⟨_, { y with b5 := x.heap.size, t5 := (x.alloc (.cells (madeCells #[.slice none 0 0] (n * 1)) 88)).heap.size }, rfl, ⟨fun _ => q, fun _ => ⟨rfl, rfl⟩, fun _ => ⟨rfl, rfl⟩, fun h => absurd rfl h, fun _ => ⟨rfl, rfl⟩, fun _ => ⟨rfl, rfl⟩, fun _ => ⟨rfl, rfl, rfl, rfl⟩⟩, ⟨fun _ => ⟨hB.trans (q.mono hB.size), hIn.lay5 b6 q.size, hAp.lay5 hIn⟩, fun h => absurd (show L 18 = true by simpa using h) (by rw [n18]; decide)⟩, fun u hu => ⟨_, hu (fun h => by cases h), m2⟩⟩
    · cases ho
      have n18 : L 18 = false := hre 18 (by decide +kernel)
      obtain ⟨hB, hIn, hAp⟩ := hI.1 n18
      obtain ⟨⟨b1, b2, b3⟩, b4, b5, b6⟩ := R0.out x hB
      obtain ⟨p, e1, r1⟩ := hp 6 (of_decide_eq_true (by kernel_rfl)) (.inl rfl)
      have e1 : a'.tmps[33]?.getD undef = .slice p n n := by have h2 : a'.tmps.getD 33 undef = .slice p n n := e1; simpa using h2
      refine ⟨wanted_none rfl, op_valY (v := .agg #[.int .i64 100, .slice p n n]) (w' := x) (by simp [go_sem, e1]) ?_⟩
      exact ⟨_, y, rfl, ⟨fun _ => Below.refl _ _, fun _ => ⟨rfl, rfl⟩, fun _ => ⟨rfl, rfl⟩, fun _ => ⟨rfl, rfl⟩, fun _ => ⟨rfl, rfl⟩, fun _ => ⟨rfl, rfl⟩, fun _ => ⟨rfl, rfl, rfl, rfl⟩⟩, ⟨fun h => hI.1 (by simpa using h), fun h => hI.2 (by simpa using h)⟩, fun u hu => ⟨p, hu (fun h => by cases h), r1⟩⟩
    · cases ho
      refine ⟨wanted_none rfl, Oper.wp_mono (K := fun a'' w'' => a'' = a'.put (some 35) (.agg #[.int .i64 20, .int .i64 0, .int .i64 0]) ∧ w'' = x) ?_ ?_⟩
      · rintro _ _ ⟨rfl, rfl⟩
        exact ⟨_, y, rfl, ⟨fun _ => Below.refl _ _, fun _ => ⟨rfl, rfl⟩, fun _ => ⟨rfl, rfl⟩, fun _ => ⟨rfl, rfl⟩, fun _ => ⟨rfl, rfl⟩, fun _ => ⟨rfl, rfl⟩, fun _ => ⟨rfl, rfl, rfl, rfl⟩⟩, ⟨fun h => hI.1 (by simpa using h), fun h => hI.2 (by simpa using h)⟩, fun u hu => hu (fun h => by cases h)⟩
      · unfold Oper.wp
        simp [go_sem]
    · cases ho
      have n18 : L 18 = false := hre 18 (by decide +kernel)
      obtain ⟨hB, hIn, hAp⟩ := hI.1 n18
      obtain ⟨⟨b1, b2, b3⟩, b4, b5, b6⟩ := R0.out x hB
      have q8 : a'.tmps[35]?.getD undef = .agg #[.int .i64 20, .int .i64 0, .int .i64 0] := by have h2 : a'.tmps.getD 35 undef = .agg #[.int .i64 20, .int .i64 0, .int .i64 0] := hp 8 (of_decide_eq_true (by kernel_rfl)) (.inl rfl); simpa using h2
      have q : Below x.heap.size x (x.alloc (.cells #[.int .i64 20, .int .i64 0, .int .i64 0] 53)) := (Below.refl _ _).alloc (Nat.le_refl _) _
      refine ⟨wanted_none rfl, op_valY (v := .slice (some ⟨x.heap.size, 0, none⟩) 1 1) (w' := x.alloc (.cells #[.int .i64 20, .int .i64 0, .int .i64 0] 53)) (by simp [go_sem, q8]) ?_⟩
      exact ⟨_, y, rfl, ⟨fun _ => q, fun _ => ⟨rfl, rfl⟩, fun _ => ⟨rfl, rfl⟩, fun _ => ⟨rfl, rfl⟩, fun _ => ⟨rfl, rfl⟩, fun _ => ⟨rfl, rfl⟩, fun _ => ⟨rfl, rfl, rfl, rfl⟩⟩, ⟨fun _ => ⟨hB.trans (q.mono hB.size), hIn.wide (Nat.le_refl _) q.size, hAp⟩, fun h => absurd (show L 18 = true by simpa using h) (by rw [n18]; decide)⟩, fun u hu => ⟨x.heap.size, hu (fun h => by cases h), Boxed.new _ _ _⟩⟩
    · cases ho
      refine ⟨wanted_none rfl, Oper.wp_mono (K := fun a'' w'' => a'' = a'.put (some 37) (.int .i64 n) ∧ w'' = x) ?_ ?_⟩
      · rintro _ _ ⟨rfl, rfl⟩
        exact ⟨_, y, rfl, ⟨fun _ => Below.refl _ _, fun _ => ⟨rfl, rfl⟩, fun _ => ⟨rfl, rfl⟩, fun _ => ⟨rfl, rfl⟩, fun _ => ⟨rfl, rfl⟩, fun _ => ⟨rfl, rfl⟩, fun _ => ⟨rfl, rfl, rfl, rfl⟩⟩, ⟨fun h => hI.1 (by simpa using h), fun h => hI.2 (by simpa using h)⟩, fun u hu => hu (fun h => by cases h)⟩
      · unfold Oper.wp
        simp [go_sem, s8]
    · cases ho
      have n18 : L 18 = false := hre 18 (by decide +kernel)
      obtain ⟨hB, hIn, hAp⟩ := hI.1 n18
      obtain ⟨⟨b1, b2, b3⟩, b4, b5, b6⟩ := R0.out x hB
      obtain ⟨m, e1, bx⟩ := hp 9 (of_decide_eq_true (by kernel_rfl)) (.inl rfl)
      have e1 : a'.tmps[36]?.getD undef = .slice (some ⟨m, 0, none⟩) 1 1 := by have h2 : a'.tmps.getD 36 undef = .slice (some ⟨m, 0, none⟩) 1 1 := e1; simpa using h2
      have q10 : a'.tmps[37]?.getD undef = .int .i64 n := by have h2 : a'.tmps.getD 37 undef = .int .i64 n := hp 10 (of_decide_eq_true (by kernel_rfl)) (.inl rfl); simpa using h2
      refine ⟨wanted_none rfl, op_callR (f := 24) (args := #[.slice (some ⟨m, 0, none⟩) 1 1, .int .i64 (n : Int)]) (by simp [execOp, resolve, Deferred.ofValue, invoke, Act.eval, e1, q10]) (implRepSr n hn1 hn8 m ⟨20, 0, 0⟩ x bx) ?_⟩
      rintro e x1 ⟨⟨g, rfl, hr2⟩, q⟩
      have m2 : SrsW x.heap.size x1.heap.size x1 (.slice (some ⟨g, 0, none⟩) n n) (List.replicate n ⟨20, 0, 0⟩) := by
        refine SrsW.of_row ?_
        show x1.ownsRow x.heap.size 53 3 _ (List.replicate n (⟨20, 0, 0⟩ : Sr)).length (srcells (List.replicate n ⟨20, 0, 0⟩))
        rw [List.length_replicate]
        exact hr2
      exact ⟨_, rfl, _, { y with b6 := x.heap.size, t6 := x1.heap.size }, rfl, ⟨fun _ => q, fun _ => ⟨rfl, rfl⟩, fun _ => ⟨rfl, rfl⟩, fun _ => ⟨rfl, rfl⟩, fun h => absurd rfl h, fun _ => ⟨rfl, rfl⟩, fun _ => ⟨rfl, rfl, rfl, rfl⟩⟩, ⟨fun _ => ⟨hB.trans (q.mono hB.size), hIn.lay6 b6 q.size, hAp.lay6 hIn⟩, fun h => absurd (show L 18 = true by simpa using h) (by rw [n18]; decide)⟩, fun u hu => ⟨_, hu (fun h => by cases h), m2⟩⟩
    · cases ho
      refine ⟨wanted_none rfl, Oper.wp_mono (K := fun a'' w'' => a'' = a'.put (some 39) (.agg #[.int .i64 1, .int .i64 0, .slice none 0 0]) ∧ w'' = x) ?_ ?_⟩
      · rintro _ _ ⟨rfl, rfl⟩
        exact ⟨_, y, rfl, ⟨fun _ => Below.refl _ _, fun _ => ⟨rfl, rfl⟩, fun _ => ⟨rfl, rfl⟩, fun _ => ⟨rfl, rfl⟩, fun _ => ⟨rfl, rfl⟩, fun _ => ⟨rfl, rfl⟩, fun _ => ⟨rfl, rfl, rfl, rfl⟩⟩, ⟨fun h => hI.1 (by simpa using h), fun h => hI.2 (by simpa using h)⟩, fun u hu => hu (fun h => by cases h)⟩
      · unfold Oper.wp
        simp [go_sem]
    · cases ho
      have n18 : L 18 = false := hre 18 (by decide +kernel)
      obtain ⟨hB, hIn, hAp⟩ := hI.1 n18
      obtain ⟨⟨b1, b2, b3⟩, b4, b5, b6⟩ := R0.out x hB
      have q12 : a'.tmps[39]?.getD undef = .agg #[.int .i64 1, .int .i64 0, .slice none 0 0] := by have h2 : a'.tmps.getD 39 undef = .agg #[.int .i64 1, .int .i64 0, .slice none 0 0] := hp 12 (of_decide_eq_true (by kernel_rfl)) (.inl rfl); simpa using h2
      have q : Below x.heap.size x (x.alloc (.cells #[.int .i64 1, .int .i64 0, .slice none 0 0] 55)) := (Below.refl _ _).alloc (Nat.le_refl _) _
      refine ⟨wanted_none rfl, op_valY (v := .slice (some ⟨x.heap.size, 0, none⟩) 1 1) (w' := x.alloc (.cells #[.int .i64 1, .int .i64 0, .slice none 0 0] 55)) (by simp [go_sem, q12]) ?_⟩
      exact ⟨_, y, rfl, ⟨fun _ => q, fun _ => ⟨rfl, rfl⟩, fun _ => ⟨rfl, rfl⟩, fun _ => ⟨rfl, rfl⟩, fun _ => ⟨rfl, rfl⟩, fun _ => ⟨rfl, rfl⟩, fun _ => ⟨rfl, rfl, rfl, rfl⟩⟩, ⟨fun _ => ⟨hB.trans (q.mono hB.size), hIn.wide (Nat.le_refl _) q.size, hAp⟩, fun h => absurd (show L 18 = true by simpa using h) (by rw [n18]; decide)⟩, fun u hu => ⟨x.heap.size, hu (fun h => by cases h), Boxed.new _ _ _⟩⟩
    · cases ho
      refine ⟨wanted_none rfl, Oper.wp_mono (K := fun a'' w'' => a'' = a'.put (some 41) (.int .i64 n) ∧ w'' = x) ?_ ?_⟩
      · rintro _ _ ⟨rfl, rfl⟩
        exact ⟨_, y, rfl, ⟨fun _ => Below.refl _ _, fun _ => ⟨rfl, rfl⟩, fun _ => ⟨rfl, rfl⟩, fun _ => ⟨rfl, rfl⟩, fun _ => ⟨rfl, rfl⟩, fun _ => ⟨rfl, rfl⟩, fun _ => ⟨rfl, rfl, rfl, rfl⟩⟩, ⟨fun h => hI.1 (by simpa using h), fun h => hI.2 (by simpa using h)⟩, fun u hu => hu (fun h => by cases h)⟩
      · unfold Oper.wp
        simp [go_sem, s8]
    · cases ho
      have n18 : L 18 = false := hre 18 (by decide +kernel)
      obtain ⟨hB, hIn, hAp⟩ := hI.1 n18
      obtain ⟨⟨b1, b2, b3⟩, b4, b5, b6⟩ := R0.out x hB
      obtain ⟨m, e1, bx⟩ := hp 13 (of_decide_eq_true (by kernel_rfl)) (.inl rfl)
      have e1 : a'.tmps[40]?.getD undef = .slice (some ⟨m, 0, none⟩) 1 1 := by have h2 : a'.tmps.getD 40 undef = .slice (some ⟨m, 0, none⟩) 1 1 := e1; simpa using h2
      have q14 : a'.tmps[41]?.getD undef = .int .i64 n := by have h2 : a'.tmps.getD 41 undef = .int .i64 n := hp 14 (of_decide_eq_true (by kernel_rfl)) (.inl rfl); simpa using h2
      refine ⟨wanted_none rfl, op_callR (f := 25) (args := #[.slice (some ⟨m, 0, none⟩) 1 1, .int .i64 (n : Int)]) (by simp [execOp, resolve, Deferred.ofValue, invoke, Act.eval, e1, q14]) (implRepFw n hn1 hn8 m ⟨1, 0, .slice none 0 0⟩ x rfl bx) ?_⟩
      rintro e x1 ⟨⟨g, rfl, hr2⟩, q⟩
      have m2 : FsIn x.heap.size x1.heap.size x1 (.agg #[.int .i64 0, .slice (some ⟨g, 0, none⟩) n n]) ⟨0, List.replicate n ⟨1, 0, []⟩⟩ := by
        have z := (fwRepG hr2).done
        refine ⟨some ⟨g, 0, none⟩, n, by unfold Fs.val; simp only [List.length_replicate], List.replicate n ⟨1, 0, .slice none 0 0⟩, ?_⟩
        rw [List.length_replicate]
        exact z
      exact ⟨_, rfl, _, { y with b7 := x.heap.size, t7 := x1.heap.size }, rfl, ⟨fun _ => q, fun _ => ⟨rfl, rfl⟩, fun _ => ⟨rfl, rfl⟩, fun _ => ⟨rfl, rfl⟩, fun _ => ⟨rfl, rfl⟩, fun h => absurd rfl h, fun _ => ⟨rfl, rfl, rfl, rfl⟩⟩, ⟨fun _ => ⟨hB.trans (q.mono hB.size), hIn.lay7 b6 q.size, hAp.lay7 hIn⟩, fun h => absurd (show L 18 = true by simpa using h) (by rw [n18]; decide)⟩, fun u hu => ⟨_, hu (fun h => by cases h), m2⟩⟩
    · cases ho
      have n18 : L 18 = false := hre 18 (by decide +kernel)
      obtain ⟨hB, hIn, hAp⟩ := hI.1 n18
      obtain ⟨⟨b1, b2, b3⟩, b4, b5, b6⟩ := R0.out x hB
      obtain ⟨p, e1, r1⟩ := hp 15 (of_decide_eq_true (by kernel_rfl)) (.inl rfl)
      have e1 : a'.tmps[42]?.getD undef = .slice p n n := by have h2 : a'.tmps.getD 42 undef = .slice p n n := e1; simpa using h2
      refine ⟨wanted_none rfl, op_valY (v := .agg #[.int .i64 0, .slice p n n]) (w' := x) (by simp [go_sem, e1]) ?_⟩
      exact ⟨_, y, rfl, ⟨fun _ => Below.refl _ _, fun _ => ⟨rfl, rfl⟩, fun _ => ⟨rfl, rfl⟩, fun _ => ⟨rfl, rfl⟩, fun _ => ⟨rfl, rfl⟩, fun _ => ⟨rfl, rfl⟩, fun _ => ⟨rfl, rfl, rfl, rfl⟩⟩, ⟨fun h => hI.1 (by simpa using h), fun h => hI.2 (by simpa using h)⟩, fun u hu => ⟨p, hu (fun h => by cases h), r1⟩⟩
    · cases ho
      have n18 : L 18 = false := hre 18 (by decide +kernel)
      obtain ⟨hB, hIn, hAp⟩ := hI.1 n18
      obtain ⟨⟨b1, b2, b3⟩, b4, b5, b6⟩ := R0.out x hB
      have q0 : a'.tmps[27]?.getD undef = .agg #[.int .i64 kd, .int .i64 ex, .int .i64 le] := by have h2 : a'.tmps.getD 27 undef = .agg #[.int .i64 kd, .int .i64 ex, .int .i64 le] := hp 0 (of_decide_eq_true (by kernel_rfl)) (.inl rfl); simpa using h2
      obtain ⟨p3, c3, e2, r2⟩ := hp 2 (of_decide_eq_true (by kernel_rfl)) (.inl rfl)
      have q2 : a'.tmps[29]?.getD undef = .slice p3 tn c3 := by have h2 : a'.tmps.getD 29 undef = .slice p3 tn c3 := e2; simpa using h2
      obtain ⟨p4, c4, e4, r4⟩ := hp 4 (of_decide_eq_true (by kernel_rfl)) (.inl rfl)
      have q4 : a'.tmps[31]?.getD undef = .slice p4 n c4 := by have h2 : a'.tmps.getD 31 undef = .slice p4 n c4 := e4; simpa using h2
      obtain ⟨p5, e7, r7⟩ := hp 7 (of_decide_eq_true (by kernel_rfl)) (.inl rfl)
      have q7 : a'.tmps[34]?.getD undef = .agg #[.int .i64 100, .slice p5 n n] := by have h2 : a'.tmps.getD 34 undef = .agg #[.int .i64 100, .slice p5 n n] := e7; simpa using h2
      obtain ⟨p6, e11, r11⟩ := hp 11 (of_decide_eq_true (by kernel_rfl)) (.inl rfl)
      have q11 : a'.tmps[38]?.getD undef = .slice p6 n n := by have h2 : a'.tmps.getD 38 undef = .slice p6 n n := e11; simpa using h2
      obtain ⟨p7, e16, r16⟩ := hp 16 (of_decide_eq_true (by kernel_rfl)) (.inl rfl)
      have q16 : a'.tmps[43]?.getD undef = .agg #[.int .i64 0, .slice p7 n n] := by have h2 : a'.tmps.getD 43 undef = .agg #[.int .i64 0, .slice p7 n n] := e16; simpa using h2
      have hval : (newG ⟨kd, ex, le⟩ t ls).val ⟨none, 0, none, 0, p3, c3, p4, c4, p5, n, p6, n, p7, n⟩ = .agg #[.int .i64 kd, .int .i64 ex, .int .i64 le, .slice none 0 0, .slice none 0 0, .slice p3 tn c3, .slice p4 n c4, .int .i64 100, .slice p5 n n, .slice p6 n n, .int .i64 0, .slice p7 n n, .int .i64 1, .int .i64 1] := by
        unfold Gt.val Gt.cells newG
        simp only [List.length_replicate, Htn.out, Hn.out, List.length_nil]
      have hs : y.t1 ≤ x.heap.size ∧ y.t2 ≤ x.heap.size := ⟨hIn.h1, hIn.h2⟩
      have ho : GtW x ⟨none, 0, none, 0, p3, c3, p4, c4, p5, n, p6, n, p7, n⟩ y (newG ⟨kd, ex, le⟩ t ls) := by
        refine ⟨rtsNone y.b1 y.t1 x, rusNone y.b2 y.t2 x, ?_, ?_, ?_, ?_, ?_⟩
        · show NdsW y.b3 y.t3 x (.slice p3 t.length c3) t
          rw [Htn.out]
          exact r2
        · show IntsW y.b4 y.t4 x (.slice p4 ls.length c4) ls
          rw [Hn.out]
          exact r4
        · show RwIn y.b5 y.t5 x (Rw.val ⟨100, List.replicate ls.length []⟩ p5 n) ⟨100, List.replicate ls.length []⟩
          unfold Rw.val
          simp only [List.length_replicate, Hn.out]
          exact r7
        · show SrsW y.b6 y.t6 x (.slice p6 (List.replicate ls.length (⟨20, 0, 0⟩ : Sr)).length n) (List.replicate ls.length ⟨20, 0, 0⟩)
          simp only [List.length_replicate, Hn.out]
          exact r11
        · show FsIn y.b7 y.t7 x (Fs.val ⟨0, List.replicate ls.length ⟨1, 0, []⟩⟩ p7 n) ⟨0, List.replicate ls.length ⟨1, 0, []⟩⟩
          unfold Fs.val
          simp only [List.length_replicate, Hn.out]
          exact r16
      refine ⟨wanted_none rfl, op_valY (v := (newG ⟨kd, ex, le⟩ t ls).val ⟨none, 0, none, 0, p3, c3, p4, c4, p5, n, p6, n, p7, n⟩) (w' := x) (by rw [hval]; simp [go_sem, q0, q2, q4, q7, q11, q16]) ?_⟩
      exact ⟨_, y, rfl, ⟨fun _ => Below.refl _ _, fun _ => ⟨rfl, rfl⟩, fun _ => ⟨rfl, rfl⟩, fun _ => ⟨rfl, rfl⟩, fun _ => ⟨rfl, rfl⟩, fun _ => ⟨rfl, rfl⟩, fun _ => ⟨rfl, rfl, rfl, rfl⟩⟩, ⟨fun h => hI.1 (by simpa using h), fun h => hI.2 (by simpa using h)⟩, fun u hu => ⟨_, hu (fun h => by cases h), ho⟩⟩
    · cases ho
      obtain ⟨hB, hIn, hAp⟩ := hI.1 hLi
      obtain ⟨⟨b1, b2, b3⟩, b4, b5, b6⟩ := R0.out x hB
      obtain ⟨x1, e1, m1⟩ := hp 17 (of_decide_eq_true (by kernel_rfl)) (.inl rfl)
      have e1 : a'.tmps.getD 44 undef = .agg ((newG ⟨kd, ex, le⟩ t ls).cells x1) := e1
      have hA2 : A + 2 ≤ S := HS.out.2
      have bs : Below w.heap.size w (x.setRow (A + 1) ((newG ⟨kd, ex, le⟩ t ls).cells x1)) := below_setRow b3 (by rw [HA.out]; omega) _
      have hsz : (x.setRow (A + 1) ((newG ⟨kd, ex, le⟩ t ls).cells x1)).heap.size = x.heap.size := size_setRow _ _ _
      refine ⟨wanted_none rfl, wp_store_row 39 (.tmp 6) (.tmp 44) rfl (A + 1) _ (by simpa [Act.eval] using s6) (by simpa [Act.eval] using e1) _ _ b2 (by rw [Gt.cells_size]; kernel_rfl) (by rw [Gt.cells_size]; rfl) (Gt.cells_one _ _) ?_⟩
      refine ⟨undef, y, rfl, ⟨fun h => absurd rfl h, fun _ => ⟨rfl, rfl⟩, fun _ => ⟨rfl, rfl⟩, fun _ => ⟨rfl, rfl⟩, fun _ => ⟨rfl, rfl⟩, fun _ => ⟨rfl, rfl⟩, fun h => absurd rfl h⟩, ⟨fun h => by simp at h, fun _ => ⟨x1, ⟨x1, y, rfl, m1.keep hIn (Nat.le_of_eq hsz.symm) (fun k k1 _ => setRow_other _ _ _ _ (by omega)), hIn.wide (by rw [← HA.out]; omega) (Nat.le_of_eq hsz.symm), hAp, Nat.le_refl _⟩, setRow_heap _ _ _ _ _ _ b2, bs⟩⟩, fun _ _ => trivial⟩
    · cases ho
      refine ⟨wanted_none rfl, Oper.wp_mono (K := fun a'' w'' => a'' = a'.put (some 7) (.bool true) ∧ w'' = x) ?_ ?_⟩
      · rintro _ _ ⟨rfl, rfl⟩
        exact ⟨_, y, rfl, ⟨fun _ => Below.refl _ _, fun _ => ⟨rfl, rfl⟩, fun _ => ⟨rfl, rfl⟩, fun _ => ⟨rfl, rfl⟩, fun _ => ⟨rfl, rfl⟩, fun _ => ⟨rfl, rfl⟩, fun _ => ⟨rfl, rfl, rfl, rfl⟩⟩, ⟨fun h => hI.1 (by simpa using h), fun h => hI.2 (by simpa using h)⟩, fun u hu => hu (fun h => by cases h)⟩
      · unfold Oper.wp
        simp [go_sem]
  case last =>
  intro L a' y x hall hkp hI hp
  have e7 : a'.tmps.getD 7 undef = .bool true := hp 19 (by decide) (by decide)
  obtain ⟨x1, z⟩ := hI.2 (hall 18 (by decide))
  have Zf : Hid _ := z
  have ha := hkp.pick [true, true, true, true, true, true, true, false, true, true, true, true, true, true, true, true, true, true, true, true, true, true, true, true, true, true, true, false, false, false, false, false, false, false, false, false, false, false, false, false, false, false, false, false, false] (by kernel_rfl)
  simp only [pickS] at ha
  clear hp hkp hI hall z R0 X3
  have E7 : Hid (a'.tmps.getD 7 undef = .bool true) := e7
  clear e7
  generalize a'.tmps.getD 7 undef = y7 at ha E7
  generalize a'.tmps.getD 27 undef = y27 at ha
  generalize a'.tmps.getD 28 undef = y28 at ha
  generalize a'.tmps.getD 29 undef = y29 at ha
  generalize a'.tmps.getD 30 undef = y30 at ha
  generalize a'.tmps.getD 31 undef = y31 at ha
  generalize a'.tmps.getD 32 undef = y32 at ha
  generalize a'.tmps.getD 33 undef = y33 at ha
  generalize a'.tmps.getD 34 undef = y34 at ha
  generalize a'.tmps.getD 35 undef = y35 at ha
  generalize a'.tmps.getD 36 undef = y36 at ha
  generalize a'.tmps.getD 37 undef = y37 at ha
  generalize a'.tmps.getD 38 undef = y38 at ha
  generalize a'.tmps.getD 39 undef = y39 at ha
  generalize a'.tmps.getD 40 undef = y40 at ha
  generalize a'.tmps.getD 41 undef = y41 at ha
  generalize a'.tmps.getD 42 undef = y42 at ha
  generalize a'.tmps.getD 43 undef = y43 at ha
  generalize a'.tmps.getD 44 undef = y44 at ha
  have e7 : y7 = .bool true := E7.out
  subst e7
  clear E7
  rw [ha]
  clear ha
  have hcs := Gt.cells_size (newG ⟨kd, ex, le⟩ t ls) x1
  unfold Gt.val at Zf
  generalize (newG ⟨kd, ex, le⟩ t ls).cells x1 = cs at Zf hcs
  have Hcs : Hid (cs.size = 14) := hcs
  clear hcs
  go_wp2_with fail
  refine bodyPost_ret (results_row_tmp Try.results9 _ _ (A + 1) _ cs _ _ (.bool true) rfl rfl Zf.out.2.1 Try.underlying39 rfl (by rw [Hcs.out]; kernel_rfl)) rfl ⟨⟨_, rfl, ?_⟩, Zf.out.2.2⟩
  rw [E2.out]
  exact Zf.out.1
end Go.Proofs.Ytfkkmjejmflgjaa
