/-
  The walk of the model's Later. By the verifier, by program.
-/
import Derived.Test.YtaojbmhodpffiaaGreatQ52GtCopyS
import Derived.Test.YtaojbmhodpffiaaGreatQ23GtOkS
import Derived.Test.YtaojbmhodpffiaaGreatQ28GtZero
import Derived.Test.YtaojbmhodpffiaaGreatQ51GtLaterS
import Derived.Test.YtaojbmhodpffiaaGreatQ15StepRow
namespace Go.Proofs.YtaojbmhodpffiaaGreat
open Go.RowKit

set_option maxHeartbeats 6400000 in
set_option maxRecDepth 100000 in
theorem specLater (g : Gt) (v : Value) (now : Int) (w : World) (hB : g.big ≤ 1048576) (h : Hid (GtAt w v g)) :
    Calls Tryz.prog 11 #[v, .int .i64 now] w fun e w' => (∃ v', e = .returned (.tuple #[v', .bool (g.laterB now)]) ∧ GtLie w.heap.size w'.heap.size w' v' (g.later now)) ∧ Below w.heap.size w w' := by
  obtain ⟨x, rfl, hG⟩ := h.out
  have A1 := fun w' (hh : Hid (GtV w' x g)) => specGateOk g x w' hB hh
  have A2 := fun w' (hh : Hid (GtV w' x g)) => specCopyG g x w' hB hh
  have A3 : Hid (g.ok = true → ∀ b B x' vs rs w', b ≤ B → GtB b B w' x' vs rs g → Calls Tryz.prog 57 #[.pointer (some ⟨B, 0, none⟩), .int .i64 now] w' fun e w2 => e = .returned (.bool (g.laterB now)) ∧ (∃ x2 vs2 rs2, GtB b B w2 x2 vs2 rs2 (g.later now)) ∧ Below b w' w2) := (fun e1 b B x' vs rs w' hbB hh => by
    have q := specLaterP b B x' vs rs g now w' (Gt.head_iff.1 (Gt.ok_iff.1 e1).1).2.2.2.1 hbB hh
    have e2 : g.laterB now = tnow g.tree now := by unfold Gt.laterB; rw [e1]; rfl
    have e3 : g.later now = if tnow g.tree now = true then { g with tree := tfill g.tree now } else g := by unfold Gt.later; rw [if_pos e1]
    rw [e2, e3]
    exact q.mono fun e w2 hh => ⟨hh.1, ⟨_, _, _, hh.2.1⟩, hh.2.2⟩)
  have N1 : Hid (g.ok = false → g.laterB now = false ∧ g.later now = Gt.zero) := fun e => ⟨by unfold Gt.laterB; rw [e]; rfl, by unfold Gt.later; rw [e]; rfl⟩
  have K : Hid (∀ w', Below w.heap.size w w' → GtV w' x g) := fun w' q => hG.below q
  generalize g.ok = ok at A1 A3 N1
  generalize g.laterB now = fl at A3 N1 ⊢
  generalize hans : g.later now = ga at A3 N1 ⊢
  have hs := Gt.cells_size g x
  have hone := Gt.cells_one g x
  unfold Gt.val at A1 A2 ⊢
  have Sh : Hid (∀ x' : Ga, (g.cells x').size = 14 ∧ (g.cells x').all (·.oneCell') = true) := fun x' => ⟨Gt.cells_size g x', Gt.cells_one g x'⟩
  have Sa : Hid (∀ x' : Ga, (ga.cells x').size = 14 ∧ (ga.cells x').all (·.oneCell') = true) := fun x' => ⟨Gt.cells_size ga x', Gt.cells_one ga x'⟩
  generalize g.cells x = cs at A1 A2 hs hone ⊢
  have A1' : Hid _ := A1
  have A2' : Hid _ := A2
  have Hs : Hid (cs.size = 14 ∧ cs.all (·.oneCell') = true) := ⟨hs, hone⟩
  clear A1 A2 h hG hs hone hans
  obtain ⟨W0, hW⟩ : ∃ W, W = (w.alloc (.cells cs 51)).alloc (.cells #[.int .i64 0, .int .i64 0, .int .i64 0, .slice none 0 0, .slice none 0 0, .slice none 0 0, .slice none 0 0, .int .i64 0, .slice none 0 0, .slice none 0 0, .int .i64 0, .slice none 0 0, .int .i64 0, .int .i64 0] 51) := ⟨_, rfl⟩
  have X : Hid (Boxed W0 w.heap.size cs 51 ∧ Boxed W0 (w.heap.size + 1) #[.int .i64 0, .int .i64 0, .int .i64 0, .slice none 0 0, .slice none 0 0, .slice none 0 0, .slice none 0 0, .int .i64 0, .slice none 0 0, .slice none 0 0, .int .i64 0, .slice none 0 0, .int .i64 0, .int .i64 0] 51 ∧ Below w.heap.size w W0 ∧ w.heap.size + 2 ≤ W0.heap.size) := by
    rw [hW]
    refine ⟨(Boxed.new w _ _).more _, ?_, ((Below.refl _ _).alloc (Nat.le_refl _) _).alloc (by simp) _, by simp⟩
    have := Boxed.new (w.alloc (.cells cs 51)) #[.int .i64 0, .int .i64 0, .int .i64 0, .slice none 0 0, .slice none 0 0, .slice none 0 0, .slice none 0 0, .int .i64 0, .slice none 0 0, .slice none 0 0, .int .i64 0, .slice none 0 0, .int .i64 0, .int .i64 0] 51
    simpa using this
  have HW : Hid (W0 = _) := hW
  clear hW
  go_enter Tryz.func11, Tryz.ntmps11
  go_upto_region 1 with fail
  rw [← HW.out]
  clear HW
  go_wp2_with (refine wpList_load_row rfl 51 (.tmp 2) rfl w.heap.size rfl _ _ _ _ X.out.1 Tryz.underlying51 rfl (by rw [Hs.out.1]; kernel_rfl) ?_)
  refine (A1'.out _ (K.out _ X.out.2.2.1)).mono ?_
  rintro e w1 ⟨rfl, q⟩
  have X1 : Hid (Boxed w1 w.heap.size cs 51 ∧ Boxed w1 (w.heap.size + 1) #[.int .i64 0, .int .i64 0, .int .i64 0, .slice none 0 0, .slice none 0 0, .slice none 0 0, .slice none 0 0, .int .i64 0, .slice none 0 0, .slice none 0 0, .int .i64 0, .slice none 0 0, .int .i64 0, .int .i64 0] 51 ∧ Below w.heap.size w w1 ∧ w.heap.size + 2 ≤ w1.heap.size) := ⟨X.out.1.below X.out.1.under q, X.out.2.1.below X.out.2.1.under q, X.out.2.2.1.trans (q.mono X.out.2.2.1.size), Nat.le_trans X.out.2.2.2 q.size⟩
  clear q X A1'
  cases ok
  · obtain ⟨e1, e2⟩ := N1.out rfl
    subst e1
    subst e2
    go_wp2_with (refine wpList_store_row rfl 51 (.tmp 4) (.tmp 11) rfl (w.heap.size + 1) #[.int .i64 0, .int .i64 0, .int .i64 0, .slice none 0 0, .slice none 0 0, .slice none 0 0, .slice none 0 0, .int .i64 0, .slice none 0 0, .slice none 0 0, .int .i64 0, .slice none 0 0, .int .i64 0, .int .i64 0] rfl rfl _ _ X1.out.2.1 (by kernel_rfl) rfl (by simp [Value.oneCell']) ?_)
    refine bodyPost_ret (results_row_tmp Tryz.results11 _ _ (w.heap.size + 1) _ #[.int .i64 0, .int .i64 0, .int .i64 0, .slice none 0 0, .slice none 0 0, .slice none 0 0, .slice none 0 0, .int .i64 0, .slice none 0 0, .slice none 0 0, .int .i64 0, .slice none 0 0, .int .i64 0, .int .i64 0] _ _ (.bool false) rfl rfl (setRow_heap w1 (w.heap.size + 1) _ _ _ _ X1.out.2.1) Tryz.underlying51 rfl (by kernel_rfl)) rfl ⟨⟨_, rfl, ?_⟩, below_setRow X1.out.2.2.1 (by omega) _⟩
    exact GtLie.zero _ _
  go_wp2_with (refine wpList_load_row rfl 51 (.tmp 2) rfl w.heap.size rfl _ _ _ _ X1.out.1 Tryz.underlying51 rfl (by rw [Hs.out.1]; kernel_rfl) ?_)
  refine (A2'.out _ (K.out _ X1.out.2.2.1)).mono ?_
  rintro e w2 ⟨⟨x', vs, rs, rfl, o⟩, q⟩
  have hx' := Sh.out x'
  have Bx : Hid (∀ W, Boxed W w2.heap.size (g.cells x') 51 → GtO w1.heap.size W x' vs rs g → GtB w1.heap.size w2.heap.size W x' vs rs g) := fun W h1 h2 => ⟨h1, h2⟩
  generalize g.cells x' = cs' at hx' Bx ⊢
  have Hx' : Hid _ := hx'
  have X2 : Hid (Boxed w2 (w.heap.size + 1) #[.int .i64 0, .int .i64 0, .int .i64 0, .slice none 0 0, .slice none 0 0, .slice none 0 0, .slice none 0 0, .int .i64 0, .slice none 0 0, .slice none 0 0, .int .i64 0, .slice none 0 0, .int .i64 0, .int .i64 0] 51 ∧ Below w.heap.size w w2 ∧ w.heap.size + 2 ≤ w1.heap.size ∧ w1.heap.size ≤ w2.heap.size) := ⟨X1.out.2.1.below X1.out.2.1.under q, X1.out.2.2.1.trans (q.mono X1.out.2.2.1.size), X1.out.2.2.2, q.size⟩
  have N : Hid (Boxed (w2.alloc (.cells #[.int .i64 0, .int .i64 0, .int .i64 0, .slice none 0 0, .slice none 0 0, .slice none 0 0, .slice none 0 0, .int .i64 0, .slice none 0 0, .slice none 0 0, .int .i64 0, .slice none 0 0, .int .i64 0, .int .i64 0] 51)) w2.heap.size #[.int .i64 0, .int .i64 0, .int .i64 0, .slice none 0 0, .slice none 0 0, .slice none 0 0, .slice none 0 0, .int .i64 0, .slice none 0 0, .slice none 0 0, .int .i64 0, .slice none 0 0, .int .i64 0, .int .i64 0] 51) := Boxed.new _ _ _
  have bN : Below w2.heap.size w2 ((w2.alloc (.cells #[.int .i64 0, .int .i64 0, .int .i64 0, .slice none 0 0, .slice none 0 0, .slice none 0 0, .slice none 0 0, .int .i64 0, .slice none 0 0, .slice none 0 0, .int .i64 0, .slice none 0 0, .int .i64 0, .int .i64 0] 51)).setRow w2.heap.size cs') := below_setRow ((Below.refl _ _).alloc (Nat.le_refl _) _) (Nat.le_refl _) _
  have Y : Hid (GtB w1.heap.size w2.heap.size ((w2.alloc (.cells #[.int .i64 0, .int .i64 0, .int .i64 0, .slice none 0 0, .slice none 0 0, .slice none 0 0, .slice none 0 0, .int .i64 0, .slice none 0 0, .slice none 0 0, .int .i64 0, .slice none 0 0, .int .i64 0, .int .i64 0] 51)).setRow w2.heap.size cs') x' vs rs g ∧ Boxed ((w2.alloc (.cells #[.int .i64 0, .int .i64 0, .int .i64 0, .slice none 0 0, .slice none 0 0, .slice none 0 0, .slice none 0 0, .int .i64 0, .slice none 0 0, .slice none 0 0, .int .i64 0, .slice none 0 0, .int .i64 0, .int .i64 0] 51)).setRow w2.heap.size cs') (w.heap.size + 1) #[.int .i64 0, .int .i64 0, .int .i64 0, .slice none 0 0, .slice none 0 0, .slice none 0 0, .slice none 0 0, .int .i64 0, .slice none 0 0, .slice none 0 0, .int .i64 0, .slice none 0 0, .int .i64 0, .int .i64 0] 51 ∧ Below w.heap.size w ((w2.alloc (.cells #[.int .i64 0, .int .i64 0, .int .i64 0, .slice none 0 0, .slice none 0 0, .slice none 0 0, .slice none 0 0, .int .i64 0, .slice none 0 0, .slice none 0 0, .int .i64 0, .slice none 0 0, .int .i64 0, .int .i64 0] 51)).setRow w2.heap.size cs') ∧ w1.heap.size ≤ ((w2.alloc (.cells #[.int .i64 0, .int .i64 0, .int .i64 0, .slice none 0 0, .slice none 0 0, .slice none 0 0, .slice none 0 0, .int .i64 0, .slice none 0 0, .slice none 0 0, .int .i64 0, .slice none 0 0, .int .i64 0, .int .i64 0] 51)).setRow w2.heap.size cs').heap.size) := by
    refine ⟨Bx.out _ (setRow_heap _ _ _ _ _ _ N.out) (o.below bN), X2.out.1.below X2.out.1.under bN, X2.out.2.1.trans (bN.mono X2.out.2.1.size), Nat.le_trans X2.out.2.2.2 bN.size⟩
  have Or : Hid (w.heap.size + 2 ≤ w1.heap.size ∧ w1.heap.size ≤ w2.heap.size) := X2.out.2.2
  clear q o hx' bN Bx X1 A2'
  go_upto_region 4 with (refine wpList_store_row rfl 51 (.tmp 6) (.tmp 13) rfl w2.heap.size cs' rfl rfl _ _ N.out (by rw [Hx'.out.1]; kernel_rfl) (by rw [Hx'.out.1]; rfl) Hx'.out.2 ?_)
  simp only [Act.put]
  generalize (w2.alloc (.cells #[.int .i64 0, .int .i64 0, .int .i64 0, .slice none 0 0, .slice none 0 0, .slice none 0 0, .slice none 0 0, .int .i64 0, .slice none 0 0, .slice none 0 0, .int .i64 0, .slice none 0 0, .int .i64 0, .int .i64 0] 51)).setRow w2.heap.size cs' = w3 at Y ⊢
  generalize w2.heap.size = B at Y Or ⊢
  clear N X2 Hx'
  go_wp2_with fail
  refine (A3.out (by first | exact trivial | exact rfl) w1.heap.size B x' vs rs w3 Or.out.2 Y.out.1).mono ?_
  rintro e w4 ⟨rfl, ⟨x2, vs2, rs2, gb⟩, q⟩
  have hx2 := Sa.out x2
  have Bx : Hid (Boxed w4 B (ga.cells x2) 51 ∧ GtO w1.heap.size w4 x2 vs2 rs2 ga) := ⟨gb.box, gb.own⟩
  have Fin : Hid (∀ W, (∀ k, k ≠ w.heap.size + 1 → W.heap[k]? = w4.heap[k]?) → GtLie w.heap.size W.heap.size W (.agg (ga.cells x2)) ga) := fun W hk => by
    have h1 : GtO w1.heap.size W x2 vs2 rs2 ga := gb.own.other fun k k1 _ => hk k (by have := Or.out; omega)
    exact (h1.mono (by have := Or.out; omega)).lie
  have R4 : Hid (Boxed w4 (w.heap.size + 1) #[.int .i64 0, .int .i64 0, .int .i64 0, .slice none 0 0, .slice none 0 0, .slice none 0 0, .slice none 0 0, .int .i64 0, .slice none 0 0, .slice none 0 0, .int .i64 0, .slice none 0 0, .int .i64 0, .int .i64 0] 51 ∧ Below w.heap.size w w4) := ⟨Y.out.2.1.below (by have := Or.out; omega) q, Y.out.2.2.1.trans (q.mono (by have := Or.out; omega))⟩
  generalize ga.cells x2 = c2 at hx2 Bx Fin
  have Hx2 : Hid _ := hx2
  clear gb q Y A3 hx2 K
  go_wp2_with (first | (refine wpList_load_row rfl 51 (.tmp 6) rfl B rfl _ _ _ _ Bx.out.1 Tryz.underlying51 rfl (by rw [Hx2.out.1]; kernel_rfl) ?_) | (refine wpList_store_row rfl 51 (.tmp 4) (.tmp 16) rfl (w.heap.size + 1) c2 rfl rfl _ _ R4.out.1 (by rw [Hx2.out.1]; kernel_rfl) (by rw [Hx2.out.1]; rfl) Hx2.out.2 ?_))
  refine bodyPost_ret (results_row_tmp Tryz.results11 _ _ (w.heap.size + 1) _ c2 _ _ (.bool fl) rfl rfl (setRow_heap w4 (w.heap.size + 1) _ _ _ _ R4.out.1) Tryz.underlying51 rfl (by rw [Hx2.out.1]; kernel_rfl)) rfl ⟨⟨_, rfl, Fin.out _ fun k hk => setRow_other _ _ _ _ hk⟩, below_setRow R4.out.2 (by omega) _⟩
end Go.Proofs.YtaojbmhodpffiaaGreat
