/-
  The walk of the program's WheelTake. By the verifier.
-/
import Derived.Test.YtkocbfikcjgigaaGreatM19WhCut
import Derived.Test.YtkocbfikcjgigaaGreatWhPo
import Derived.Test.YtkocbfikcjgigaaGreatM22DzCat
import Derived.Test.YtkocbfikcjgigaaGreatWhOkW
import Derived.BigQuiet
import Derived.Deep.DeepCutAuto
namespace Go.Proofs.YtkocbfikcjgigaaGreat
open Go.RowKit Go.Shelf

/-- What lies when the first one has been cut off. -/
structure PoZ (w : World) (f : Int) (B F g vc G : Nat) (vs : List Value) (ls : List (List Du)) (x0 x1 : Int) (wr : World) : Prop where
  res : Boxed wr (w.heap.size + 1) #[.int .i64 0, .slice none 0 0] 29
  item : Boxed wr (w.heap.size + 1 + 1) #[.int .i64 0, .int .i64 0] 33
  out : Boxed wr B #[.int .i64 f, .slice (some ⟨g, 0, none⟩) 8 vc] 29
  fst : Boxed wr F #[.int .i64 x0, .int .i64 x1] 33
  dz : ∃ t, t ≤ wr.heap.size ∧ DzV G t wr (.slice (some ⟨g, 0, none⟩) 8 vc) vs ls
  eight : ls.length = 8
  bel : Below w.heap.size w wr
  lo : w.heap.size + 3 ≤ G
  hi : w.heap.size + 3 ≤ B
  hf : w.heap.size + 3 ≤ F
theorem PoZ.done {w : World} {f : Int} {B F g vc G : Nat} {vs : List Value} {ls : List (List Du)} {x0 x1 : Int} {wr : World} (h : PoZ w f B F g vc G vs ls x0 x1 wr) {wz : World} (ho : ∀ k, k ≠ w.heap.size + 1 → k ≠ w.heap.size + 1 + 1 → wz.heap[k]? = wr.heap[k]?) (hb : Below w.heap.size wr wz) :
    WhIn w.heap.size wz.heap.size wz (.agg #[.int .i64 f, .slice (some ⟨g, 0, none⟩) 8 vc]) ⟨f, ls⟩ ∧ Below w.heap.size w wz := by
  have lo := h.lo
  obtain ⟨t, ht, hd⟩ := h.dz
  have hz := hb.size
  refine ⟨⟨some ⟨g, 0, none⟩, vc, by unfold Wh.val; simp [h.eight], vs, ?_⟩, h.bel.trans hb⟩
  show DzV _ _ _ (.slice _ ls.length vc) vs ls
  rw [h.eight]
  exact (hd.keep hz fun k hk _ => ho k (by omega) (by omega)).wide (by omega) (by omega) (Nat.le_refl _)

set_option maxHeartbeats 6400000 in
set_option maxRecDepth 100000 in
theorem implWheelTake (r : Wh) (v : Value) (w : World) (hB : r.big ≤ 1048576) (h : Hid (WhAt w v r)) :
    Calls Tryz.prog 10 #[v] w fun e w' => (∃ v', e = .returned (.tuple #[v', Du.val (r.takeD), .bool (r.takeB)]) ∧ WhIn w.heap.size w'.heap.size w' v' (r.take)) ∧ Below w.heap.size w w' := by
  have A1 := fun (w : World) (hh : Hid (WhAt w v r)) => implWheelOk r v w hB hh
  have A4 := fun (w : World) (hh : Hid (WhAt w v r)) => implAllIn r v w hB hh
  obtain ⟨a, c, rfl, k⟩ := h.out
  have A2 := fun (w : World) (hh : DzAt w a r.slots) => implCpyWh r a c w hB hh
  have A3 := fun (w : World) (hh : DzAt w a r.slots) => implCntWh r a c w hB hh
  have P1 : Hid (r.ok = false → r.takeB = false ∧ r.takeD = ⟨0, 0⟩ ∧ r.take = ⟨0, []⟩) := fun e => take_bad e
  have P2 : Hid (r.ok = true → dzSum r.slots r.slots.length = 0 → r.takeB = false ∧ r.takeD = ⟨0, 0⟩ ∧ r.take = r) := fun e e2 => take_nil e (by have := dzFlat_len r.slots r.slots.length; rw [List.take_length] at this; omega)
  have P3 : Hid (r.ok = true → r.slots.length = 8 ∧ (1 ≤ r.step ∧ r.step ≤ 1000) ∧ (¬ dzSum r.slots r.slots.length = 0 → ∀ l : List Du, l.Perm r.slots.flatten → Sorted l → 0 < l.length ∧ r.takeB = true ∧ duAt l 0 = r.takeD ∧ (duAt l 0).ok = true ∧ ∃ j : Nat, j < 8 ∧ slot r.step (duAt l 0) = (j : Int) ∧ 0 < (dzAt r.slots j).length ∧ r.take = ⟨r.step, r.slots.set j ((dzAt r.slots j).drop 1)⟩)) := fun e =>
    ⟨(Wh.ok_is.1 e).2.1.len, (Wh.ok_is.1 e).1, fun e2 l hp hs => by
      have h0 : 0 < l.length := by
        have := dzFlat_len r.slots r.slots.length
        rw [List.take_length] at this
        rw [hp.length_eq]
        omega
      exact ⟨h0, take_prog e hp hs h0⟩⟩
  have HI : Hid (∀ w', Below w.heap.size w w' → WhAt w' (r.val a c) r ∧ DzAt w' a r.slots) := fun w' g => ⟨h.out.below g, k.below g⟩
  generalize r.takeB = pb at P1 P2 P3 ⊢
  generalize r.takeD = pi at P1 P2 P3 ⊢
  generalize r.take = pr at P1 P2 P3 ⊢
  generalize r.ok = ok at A1 P1 P2 P3
  obtain ⟨f, ls⟩ := r
  simp only [Wh.val] at A1 A2 A3 A4 P1 P2 P3 HI ⊢
  obtain ⟨n, hn⟩ : ∃ n, ls.length = n := ⟨_, rfl⟩
  rw [hn] at A1 A2 A3 A4 P2 P3 HI ⊢
  have Hn : Hid (ls.length = n) := hn
  generalize dzSum ls n = cnt at A3 P2 P3
  have A1' : Hid _ := A1
  have A2' : Hid _ := A2
  have A3' : Hid _ := A3
  have A4' : Hid _ := A4
  clear A1 A2 A3 A4 h k hB hn
  obtain ⟨W, hW⟩ : ∃ W, W = ((w.alloc (.cells #[.int .i64 f, .slice a n c] 29)).alloc (.cells #[.int .i64 0, .slice none 0 0] 29)).alloc (.cells #[.int .i64 0, .int .i64 0] 33) := ⟨_, rfl⟩
  have X : Hid (Boxed W w.heap.size #[.int .i64 f, .slice a n c] 29 ∧ Boxed W (w.heap.size + 1) #[.int .i64 0, .slice none 0 0] 29 ∧ Boxed W (w.heap.size + 1 + 1) #[.int .i64 0, .int .i64 0] 33 ∧ Below w.heap.size w W) := by
    rw [hW]
    refine ⟨((Boxed.new w _ _).more _).more _, ?_, ?_, (((Below.refl _ _).alloc (Nat.le_refl _) _).alloc (by simp) _).alloc (by simp; omega) _⟩
    · have := (Boxed.new (w.alloc (.cells #[.int .i64 f, .slice a n c] 29)) #[.int .i64 0, .slice none 0 0] 29).more (.cells #[.int .i64 0, .int .i64 0] 33)
      simpa using this
    · have := Boxed.new ((w.alloc (.cells #[.int .i64 f, .slice a n c] 29)).alloc (.cells #[.int .i64 0, .slice none 0 0] 29)) #[.int .i64 0, .int .i64 0] 33
      simpa using this
  have HW : Hid (W = _) := hW
  clear hW
  go_enter Tryz.func10, Tryz.ntmps10
  go_upto_region 1 with fail
  rw [← HW.out]
  clear HW
  have c0 : W.cell? ⟨w.heap.size, 0, none⟩ = some (.int .i64 f) := X.out.1.cell 0 rfl
  have c1 : W.cell? ⟨w.heap.size, 1, none⟩ = some (.slice a n c) := X.out.1.cell 1 rfl
  go_wp2_with fail
  refine (A1'.out _ (HI.out _ X.out.2.2.2).1).mono ?_
  rintro e w1 ⟨rfl, q⟩
  have X1 : Hid (Boxed w1 w.heap.size #[.int .i64 f, .slice a n c] 29 ∧ Boxed w1 (w.heap.size + 1) #[.int .i64 0, .slice none 0 0] 29 ∧ Boxed w1 (w.heap.size + 1 + 1) #[.int .i64 0, .int .i64 0] 33 ∧ Below w.heap.size w w1) :=
    ⟨X.out.1.below X.out.1.under q, X.out.2.1.below X.out.2.1.under q, X.out.2.2.1.below X.out.2.2.1.under q, X.out.2.2.2.trans (q.mono X.out.2.2.2.size)⟩
  clear q X A1' c0 c1
  cases ok
  · obtain ⟨e1, e2, e3⟩ := P1.out (by first | exact trivial | exact rfl)
    subst e1
    subst e2
    subst e3
    have r2 : Boxed (w1.setRow (w.heap.size + 1) #[.int .i64 0, .slice none 0 0]) (w.heap.size + 1 + 1) #[.int .i64 0, .int .i64 0] 33 := (setRow_other _ _ _ _ (by omega)).trans X1.out.2.2.1
    go_wp2_with (first | (refine wpList_store_row rfl 29 (.tmp 2) (.tmp 11) rfl (w.heap.size + 1) #[.int .i64 0, .slice none 0 0] rfl rfl _ _ X1.out.2.1 (by kernel_rfl) rfl (by simp [Value.oneCell']) ?_) | (refine wpList_store_row rfl 33 (.tmp 3) (.tmp 12) rfl (w.heap.size + 1 + 1) #[.int .i64 0, .int .i64 0] rfl rfl _ _ r2 (by kernel_rfl) rfl (by simp [Value.oneCell']) ?_))
    refine bodyPost_ret (results_two_tmp Tryz.results10 _ _ (w.heap.size + 1) (w.heap.size + 1 + 1) _ _ #[.int .i64 0, .slice none 0 0] #[.int .i64 0, .int .i64 0] _ _ _ _ (.bool false) rfl rfl rfl ((setRow_other _ _ _ _ (by omega)).trans (setRow_heap w1 (w.heap.size + 1) _ _ _ _ X1.out.2.1)) (setRow_heap _ (w.heap.size + 1 + 1) _ _ _ _ r2) Tryz.underlying29 rfl (by kernel_rfl) Tryz.underlying33 rfl (by kernel_rfl)) rfl ⟨⟨_, rfl, none, 0, rfl, dzIn_nil _ _ _⟩, below_setRow (below_setRow X1.out.2.2.2 (by omega) _) (by omega) _⟩
  have c0 : w1.cell? ⟨w.heap.size, 0, none⟩ = some (.int .i64 f) := X1.out.1.cell 0 rfl
  have c1 : w1.cell? ⟨w.heap.size, 1, none⟩ = some (.slice a n c) := X1.out.1.cell 1 rfl
  go_wp2_with fail
  refine (A2'.out _ (HI.out _ X1.out.2.2.2).2).mono ?_
  rintro e w2 ⟨⟨v2, vs, rfl, g2, tg⟩, q⟩
  obtain ⟨e8, hst, P4⟩ := P3.out (by first | exact trivial | exact rfl)
  subst e8
  obtain ⟨g, vc, ev⟩ : ∃ g vc, v2 = .slice (some ⟨g, 0, none⟩) 8 vc := by
    have ho := g2.outer
    rw [Hn.out] at ho
    rcases ho.2 with ⟨-, e⟩ | ⟨g, vc, cur, e, -⟩
    · cases e
    · exact ⟨g, vc, e⟩
  subst ev
  have X2 : Hid (PoW w f a 8 c w2.heap.size (w1.heap.size + 2) (some ⟨g, 0, none⟩) vc vs ls (w2.alloc (.cells #[.int .i64 f, .slice (some ⟨g, 0, none⟩) 8 vc] 29))) := by
    have s1 := X1.out.2.2.1.under
    have s2 := q.size
    refine ⟨(X1.out.1.below X1.out.1.under q).more _, (X1.out.2.1.below X1.out.2.1.under q).more _, (X1.out.2.2.1.below X1.out.2.2.1.under q).more _, Boxed.new _ _ _, g2.below ((Below.refl _ _).alloc (Nat.le_refl _) _), ?_, by omega, by omega⟩
    have b := X1.out.2.2.2.trans (q.mono X1.out.2.2.2.size)
    exact b.alloc b.size _
  have Tg : Hid (Tight vs) := tg
  have Q4 : Hid _ := P4
  clear q g2 tg X1 c0 c1 A2' P4 P3
  go_upto_region 4 with fail
  generalize w2.alloc (.cells #[.int .i64 f, .slice (some ⟨g, 0, none⟩) 8 vc] 29) = w3 at X2 ⊢
  generalize w2.heap.size = B at X2 ⊢
  generalize w1.heap.size + 2 = G at X2
  have c0 : w3.cell? ⟨w.heap.size, 0, none⟩ = some (.int .i64 f) := X2.out.box.cell 0 rfl
  have c1 : w3.cell? ⟨w.heap.size, 1, none⟩ = some (.slice a 8 c) := X2.out.box.cell 1 rfl
  go_wp2_with fail
  refine (A3'.out _ (HI.out _ X2.out.bel).2).mono ?_
  rintro e w4 ⟨rfl, q⟩
  have X4 : Hid (PoW w f a 8 c B G (some ⟨g, 0, none⟩) vc vs ls w4) := X2.out.below q
  clear q X2 c0 c1 A3'
  by_cases hc : cnt = 0
  · have hc' : ((cnt : Nat) : Int) = 0 := by omega
    obtain ⟨e1, e2, e3⟩ := P2.out (by first | exact trivial | exact rfl) hc
    subst e1
    subst e2
    subst e3
    have hb := X4.out.hi
    have r1 : Boxed (w4.setRow (w.heap.size + 1) #[.int .i64 f, .slice (some ⟨g, 0, none⟩) 8 vc]) (w.heap.size + 1 + 1) #[.int .i64 0, .int .i64 0] 33 := (setRow_other _ _ _ _ (by omega)).trans X4.out.item
    go_wp2_with (first | (refine wpList_load_row rfl 29 (.tmp 5) rfl B rfl _ _ _ _ X4.out.out Tryz.underlying29 rfl (by kernel_rfl) ?_) | (refine wpList_store_row rfl 29 (.tmp 2) (.tmp 18) rfl (w.heap.size + 1) _ rfl rfl _ _ X4.out.res (by kernel_rfl) rfl (by simp [Value.oneCell']) ?_) | (refine wpList_store_row rfl 33 (.tmp 3) (.tmp 19) rfl (w.heap.size + 1 + 1) #[.int .i64 0, .int .i64 0] rfl rfl _ _ r1 (by kernel_rfl) rfl (by simp [Value.oneCell']) ?_))
    have D := X4.out.done Hn.out (wz := (w4.setRow (w.heap.size + 1) #[.int .i64 f, .slice (some ⟨g, 0, none⟩) 8 vc]).setRow (w.heap.size + 1 + 1) #[.int .i64 0, .int .i64 0]) (fun k h1 h2 => two_rows k h1 h2) (below_setRow (below_setRow (Below.refl _ _) (by omega) _) (by omega) _)
    refine bodyPost_ret (results_two_tmp Tryz.results10 _ _ (w.heap.size + 1) (w.heap.size + 1 + 1) _ _ #[.int .i64 f, .slice (some ⟨g, 0, none⟩) 8 vc] #[.int .i64 0, .int .i64 0] _ _ _ _ (.bool false) rfl rfl rfl ((setRow_other _ _ _ _ (by omega)).trans (setRow_heap w4 (w.heap.size + 1) _ _ _ _ X4.out.res)) (setRow_heap _ (w.heap.size + 1 + 1) _ _ _ _ r1) Tryz.underlying29 rfl (by kernel_rfl) Tryz.underlying33 rfl (by kernel_rfl)) rfl ⟨⟨_, rfl, D.1⟩, D.2⟩
  have hc' : ¬ ((cnt : Nat) : Int) = 0 := by omega
  have hc2 : (((cnt : Nat) : Int) == 0) = false := by simpa using hc'
  have c0 : w4.cell? ⟨w.heap.size, 0, none⟩ = some (.int .i64 f) := X4.out.box.cell 0 rfl
  have c1 : w4.cell? ⟨w.heap.size, 1, none⟩ = some (.slice a 8 c) := X4.out.box.cell 1 rfl
  go_wp2_with fail
  refine (A4'.out _ (HI.out _ X4.out.bel).1).mono ?_
  rintro e w5 ⟨gl, l, rfl, p1, p2, p3, p4⟩
  obtain ⟨h0, e1, e2, hdk, j, hj8, hsl, hjl, e3⟩ := Q4.out hc l p1 p2
  have hat := p3.at
  obtain ⟨m, hm⟩ : ∃ m, l.length = m := ⟨_, rfl⟩
  obtain ⟨al, hal⟩ : ∃ al, al = some (⟨gl, 0, none⟩ : Addr) := ⟨_, rfl⟩
  rw [← hal] at hat
  have h0' : (0 : Int) < (m : Int) := by omega
  rw [hm, ← hal]
  obtain ⟨b1, o1, ha1, -, -⟩ := hat 0 h0
  clear hal
  subst ha1
  obtain ⟨d0, d1⟩ := hat.cells h0
  simp only [Nat.zero_mul, Nat.add_zero] at d0 d1
  have X5 : Hid (PoW w f a 8 c B G (some ⟨g, 0, none⟩) vc vs ls w5) := X4.out.below p4
  have A5 := fun w => implSlot f (duAt l 0) w hst hdk
  rw [hsl] at A5
  have hj8' : (j : Int) < 8 := by omega
  obtain ⟨mj, hmj⟩ : ∃ mj, (dzAt ls j).length = mj + 1 := ⟨(dzAt ls j).length - 1, by omega⟩
  have Hmj : Hid ((dzAt ls j).length = mj + 1) := hmj
  obtain ⟨LS, hLS⟩ : ∃ LS, ls.set j ((dzAt ls j).drop 1) = LS := ⟨_, rfl⟩
  rw [hLS] at e3
  have HLS : Hid (ls.set j ((dzAt ls j).drop 1) = LS) := hLS
  have E : Hid (pb = true ∧ duAt l 0 = pi ∧ pr = ⟨f, LS⟩) := ⟨e1, e2, e3⟩
  obtain ⟨⟨x0, x1⟩, hx⟩ : ∃ x, duAt l 0 = x := ⟨_, rfl⟩
  rw [hx] at d0 d1 A5 E
  simp only [Du.val] at d0 d1 A5
  have A5' : Hid _ := A5
  clear A5 e1 e2 e3 hLS hx hat hdk hsl hjl p1 p2 p3 p4 Q4 A4' P1 P2 X4 c0 c1 hmj
  have Y : Hid (PoW w f a 8 c B G (some ⟨g, 0, none⟩) vc vs ls (w5.alloc (.cells #[.int .i64 x0, .int .i64 x1] 33)) ∧ Boxed (w5.alloc (.cells #[.int .i64 x0, .int .i64 x1] 33)) w5.heap.size #[.int .i64 x0, .int .i64 x1] 33 ∧ w.heap.size + 3 ≤ w5.heap.size) := ⟨X5.out.below ((Below.refl _ _).alloc (Nat.le_refl _) _), Boxed.new _ _ _, by have := X5.out.item.under; show _ ≤ _; omega⟩
  clear X5
  go_upto_region 7 with fail
  clear d0 d1
  generalize w5.alloc (.cells #[.int .i64 x0, .int .i64 x1] 33) = W6 at Y ⊢
  generalize w5.heap.size = F at Y ⊢
  haveI : Nonempty (BelW W6.heap.size W6) := ⟨⟨W6, Below.refl _ _⟩⟩
  have c0 : ∀ p : BelW W6.heap.size W6, p.w'.cell? ⟨B, 1, none⟩ = some (.slice (some ⟨g, 0, none⟩) 8 vc) := fun p => (Y.out.1.below p.h).out.cell 1 rfl
  have c1 : ∀ p : BelW W6.heap.size W6, p.w'.cell? ⟨w.heap.size, 0, none⟩ = some (.int .i64 f) := fun p => (Y.out.1.below p.h).box.cell 0 rfl
  have c2 : ∀ p : BelW W6.heap.size W6, p.w'.cell? ⟨F, 0, none⟩ = some (.int .i64 x0) := fun p => (Y.out.2.1.below Y.out.2.1.under p.h).cell 0 rfl
  have c3 : ∀ p : BelW W6.heap.size W6, p.w'.cell? ⟨F, 1, none⟩ = some (.int .i64 x1) := fun p => (Y.out.2.1.below Y.out.2.1.under p.h).cell 1 rfl
  refine region_below W6.heap.size (by kernel_rfl) (by kernel_rfl) ?_
  repeat (go_big_quiet_step ((go_at_call 28; with_reducible refine quiet_below (Nat.le_refl _) (A5'.out _))))
  refine wpQuiet_nil ?_
  intro w7 hx
  have b7 : Below W6.heap.size W6 w7 := BelW.out hx
  have Z : Hid (PoW w f a 8 c B G (some ⟨g, 0, none⟩) vc vs ls w7 ∧ Boxed w7 F #[.int .i64 x0, .int .i64 x1] 33 ∧ w.heap.size + 3 ≤ F) := ⟨Y.out.1.below b7, Y.out.2.1.below Y.out.2.1.under b7, Y.out.2.2⟩
  clear hx b7 c0 c1 c2 c3 Y A5'
  have hWv : WvV G B f g vc vs ls w7 := ⟨Z.out.1.out, Z.out.1.g, by have h1 := (World.ownsRow.lt Z.out.1.g.outer g rfl); omega, Hn.out⟩
  obtain ⟨x, n0, hxv⟩ : ∃ x n0, dzV vs j = .slice (some ⟨x, 0, none⟩) n0 n0 := Tg.out j (by have := hWv.mem.len; have := hWv.eight; omega)
  have en0 : n0 = mj + 1 := by
    obtain ⟨a', c', e⟩ := (hWv.row hj8).shape
    rw [hxv, Hmj.out] at e
    cases e
    rfl
  subst en0
  have hcell : w7.cell? ⟨g, j, none⟩ = some (.slice (some ⟨x, 0, none⟩) (mj + 1) (mj + 1)) := by rw [hWv.cell hj8, hxv]
  have hice := hWv.ice j
  have Zf : Hid (PoZ w f B F g vc G (vs.set j (cutV x mj)) (LS) x0 x1 (w7.setCell ⟨g, j, none⟩ (cutV x mj))) := by
    have hcut := hWv.cut hj8 hxv Hmj.out
    have hl8 : LS.length = 8 := by rw [← HLS.out, List.length_set]; exact Hn.out
    rw [HLS.out] at hcut
    have hgl := hWv.lt
    have hlo := Z.out.1.lo
    have gne : g ≠ F := by
      intro e
      have h1 := Z.out.2.1
      rcases hWv.mem.outer.2 with ⟨e', _⟩ | ⟨g', cap, cur, e', _, hg', _⟩
      · cases e'
      · injection e' with e1
        cases e1
        unfold Boxed at h1
        rw [← e, hg'] at h1
        simp only [Option.some.injEq, Obj.cells.injEq] at h1
        exact absurd h1.2.1 (by decide)
    refine ⟨Z.out.1.res.far (by omega) j _, Z.out.1.item.far (by omega) j _, Z.out.1.out.far hWv.ne j _, Z.out.2.1.far (fun e => gne e.symm) j _, ⟨w7.heap.size, by simp, hcut⟩, hl8, Z.out.1.bel.setCell (by show w.heap.size ≤ g; omega) _, hlo, Z.out.1.hi, Z.out.2.2⟩
  have Fz : Hid (∀ u : Value, u = cutV x mj → ∃ vs' : List Value, PoZ w f B F g vc G vs' (LS) x0 x1 (w7.setCell ⟨g, j, none⟩ u)) := fun u e => by rw [e]; exact ⟨_, Zf.out⟩
  clear Zf hWv Z hxv Tg
  go_upto_region 8 with fail
  go_cut [] (fun wz => Hid (∃ vs' : List Value, PoZ w f B F g vc G vs' (LS) x0 x1 wz))
  case first =>
    have hm1 : (1 : Int) ≤ (mj : Int) + 1 := by omega
    by_cases h0m : mj = 0
    · subst h0m
      go_wp2_with fail
      go_meet
      exact Fz.out _ rfl
    · have h1m : (mj + 1 = 1) = False := by simp [h0m]
      go_wp2_with fail
      go_meet
      exact Fz.out _ (by unfold cutV; rw [if_neg h0m])
  case rest =>
  obtain ⟨vs', hP⟩ := hcut.out
  obtain ⟨w8, rfl⟩ : ∃ w8, w8 = wc := ⟨_, rfl⟩
  have X8 : Hid (PoZ w f B F g vc G vs' (LS) x0 x1 w8) := hP
  clear hcut hP hcell hice Fz
  have hB3 := X8.out.hi
  have hF3 := X8.out.hf
  have n5 : ¬ B = w.heap.size + 1 := by omega
  have n6 : ¬ B = w.heap.size + 1 + 1 := by omega
  have n7 : ¬ F = w.heap.size + 1 := by omega
  have n8 : ¬ F = w.heap.size + 1 + 1 := by omega
  have o0 : w8.cell? ⟨B, 0, none⟩ = some (.int .i64 f) := X8.out.out.cell 0 rfl
  have o1 : w8.cell? ⟨B, 1, none⟩ = some (.slice (some ⟨g, 0, none⟩) 8 vc) := X8.out.out.cell 1 rfl
  have s0 : w8.cell? ⟨F, 0, none⟩ = some (.int .i64 x0) := X8.out.fst.cell 0 rfl
  have s1 : w8.cell? ⟨F, 1, none⟩ = some (.int .i64 x1) := X8.out.fst.cell 1 rfl
  have t0 : w8.cell? ⟨w.heap.size + 1, 0, none⟩ = some (.int .i64 0) := X8.out.res.cell 0 rfl
  have t1 : w8.cell? ⟨w.heap.size + 1, 1, none⟩ = some (.slice none 0 0) := X8.out.res.cell 1 rfl
  have y0 : w8.cell? ⟨w.heap.size + 1 + 1, 0, none⟩ = some (.int .i64 0) := X8.out.item.cell 0 rfl
  have y1 : w8.cell? ⟨w.heap.size + 1 + 1, 1, none⟩ = some (.int .i64 0) := X8.out.item.cell 1 rfl
  have t2 := X8.out.res.ice 0
  have t3 := X8.out.res.ice 1
  have y3 := X8.out.item.ice 0
  have y4 := X8.out.item.ice 1
  have P := take_fill (n := w.heap.size) (.int .i64 f) (.slice (some ⟨g, 0, none⟩) 8 vc) (.int .i64 x0) (.int .i64 x1) X8.out.res X8.out.item (by omega) (by omega) (by omega)
  obtain ⟨e1, e2, e3⟩ := E.out
  subst e1
  subst e2
  subst e3
  have Fin : Hid (∀ X : World, Boxed X (w.heap.size + 1) #[.int .i64 f, .slice (some ⟨g, 0, none⟩) 8 vc] 29 ∧ Boxed X (w.heap.size + 1 + 1) #[.int .i64 x0, .int .i64 x1] 33 ∧ (∀ k, k ≠ w.heap.size + 1 → k ≠ w.heap.size + 1 + 1 → X.heap[k]? = w8.heap[k]?) ∧ Below w.heap.size w8 X →
      ∀ z : Act, z.tmps.getD 2 undef = .pointer (some ⟨w.heap.size + 1, 0, none⟩) → z.tmps.getD 3 undef = .pointer (some ⟨w.heap.size + 1 + 1, 0, none⟩) → z.tmps.getD 4 undef = .bool true → z.defers = [] →
      bodyPost Tryz.prog Tryz.f10 (fun e w' => (∃ v', e = .returned (.tuple #[v', Du.val ⟨x0, x1⟩, .bool true]) ∧ WhIn w.heap.size w'.heap.size w' v' ⟨f, LS⟩) ∧ Below w.heap.size w w') .ret z X) := by
    intro X hX z z4 z5 z6 zd
    have D := X8.out.done hX.2.2.1 hX.2.2.2
    exact bodyPost_ret (results_two_tmp Tryz.results10 _ _ (w.heap.size + 1) (w.heap.size + 1 + 1) _ _ _ _ _ _ _ _ (.bool true) z4 z5 z6 hX.1 hX.2.1 Tryz.underlying29 rfl (by kernel_rfl) Tryz.underlying33 rfl (by kernel_rfl)) zd ⟨⟨_, rfl, D.1⟩, D.2⟩
  have P1 : Hid (_ ∧ _ ∧ _ ∧ _) := P
  clear P
  go_upto_region 9 with fail
  go_region
  all_goals (
    go_wp2
    generalize (((w8.setCell ⟨w.heap.size + 1, 0, none⟩ (.int .i64 f)).setCell ⟨w.heap.size + 1, 1, none⟩ (.slice (some ⟨g, 0, none⟩) 8 vc)).setCell ⟨w.heap.size + 1 + 1, 0, none⟩ (.int .i64 x0)).setCell ⟨w.heap.size + 1 + 1, 1, none⟩ (.int .i64 x1) = XX at P1 ⊢
    exact Fin.out XX.drew ⟨P1.out.1, P1.out.2.1, P1.out.2.2.1, P1.out.2.2.2.drew⟩ _ rfl rfl rfl rfl)
end Go.Proofs.YtkocbfikcjgigaaGreat
